/- The code's Pack of rice. -/
import Derived.Test.YtlnhpdikdefgoaaRicC
import Derived.Test.YtlnhpdikdefgoaaChunk
namespace Go.Proofs.Ytlnhpdikdefgoaa
open Go.RowKit Go.Shelf
set_option maxRecDepth 100000

attribute [local go_sem] Oper.semAt_some

/-- The protected set grows by blocks that are new. -/
theorem CW.move {A A' S : Nat → Prop} {w w' : World} {g : Nat} {L : List Bool} {t : TypeId} {R : Array Value} (h : CW A w g L t R) (hk : Kept S w w') (hS : ∀ k, S k → k < w.heap.size → A k) (hA : ∀ k, A' k → k < w'.heap.size ∧ (A k ∨ w.heap.size ≤ k)) : CW A' w' g L t R := by
  obtain ⟨v, hv⟩ := h
  have h1 := hv.wtr.blk.lt
  refine ⟨v, ⟨hv.wtr.blk.kept hk (fun e => hv.out (hS _ e h1)), hv.wtr.own.kept hk (fun k e hs => hv.far k e (hS k hs (hv.wtr.own.lt e))), hv.wtr.len, hv.wtr.byte, hv.wtr.ty⟩, fun e => ?_, fun k e e2 => ?_, fun k e => (hA k e).1⟩
  · rcases (hA _ e).2 with e3 | e3
    · exact hv.out e3
    · omega
  · have h2 := hv.wtr.own.lt e
    rcases (hA _ e2).2 with e3 | e3
    · exact hv.far k e e3
    · omega
/-- .. or by blocks that are no cells. -/
def NoCells (w : World) (k : Nat) : Prop := ∃ o, w.heap[k]? = some o ∧ o.isCells = false
theorem NoCells.lt {w : World} {k : Nat} (h : NoCells w k) : k < w.heap.size := by
  obtain ⟨o, ho, _⟩ := h
  exact (Array.getElem?_eq_some_iff.1 ho).1
theorem Blk.cells {w : World} {g : Nat} {t : TypeId} {cs : Array Value} (h : Blk w g t cs) : ¬ NoCells w g := by
  rintro ⟨o, ho, hc⟩
  unfold Blk at h
  rw [h] at ho
  cases ho
  cases hc
theorem Own.cells {w : World} {e : TypeId} {k : IntKind} {v : Value} {xs : List Int} {g : Nat} (h : Own w e k v xs) (hg : v.ownBlock = some g) : ¬ NoCells w g := by
  rintro ⟨o, ho, hc⟩
  rcases h.2 with ⟨rfl, _⟩ | ⟨g', cap, cur, rfl, _, hh, _⟩
  · cases hg
  · have e : g' = g := by simpa [Value.ownBlock] using hg
    subst e
    rw [hh] at ho
    cases ho
    cases hc
theorem CW.wide {A : Nat → Prop} {w : World} {g : Nat} {L : List Bool} {t : TypeId} {R : Array Value} (h : CW A w g L t R) : CW (fun k => A k ∨ NoCells w k) w g L t R := by
  obtain ⟨v, hv⟩ := h
  exact ⟨v, ⟨hv.wtr, fun e => e.elim hv.out hv.wtr.blk.cells, fun k e e2 => e2.elim (hv.far k e) (hv.wtr.own.cells e), fun k e => e.elim (hv.there k) NoCells.lt⟩⟩
theorem CW.less {A A' : Nat → Prop} {w : World} {g : Nat} {L : List Bool} {t : TypeId} {R : Array Value} (h : CW A w g L t R) (hA : ∀ k, A' k → A k) : CW A' w g L t R := by
  obtain ⟨v, hv⟩ := h
  exact ⟨v, ⟨hv.wtr, fun e => hv.out (hA _ e), fun k e e2 => hv.far k e (hA _ e2), fun k e => hv.there k (hA _ e)⟩⟩
theorem KeepsFrom.of {S : Nat → Prop} {w w' : World} (B : Nat) (h : Kept S w w') (hS : ∀ k, S k → ¬ NoCells w k) : KeepsFrom B w w' :=
  ⟨h.size, fun k o _ ho hc => (h.block k (Array.getElem?_eq_some_iff.1 ho).1 (fun e => hS k e ⟨o, ho, hc⟩)).trans ho⟩
/-- The iterator's and the loop's own book-keeping. -/
theorem kept_of_grown {w w' : World} {row : Option Nat} (h : w.grownBy w' row) : Kept (fun k => row = some k) w w' := (Kept.refl _ _).grown h fun _ e _ => e
theorem boxes_t {B : Nat} {X Y Z : World} (h : BoxesAt B X Y) (h' : BoxesAt B Y Z) : BoxesAt B X Z := ⟨h'.1.trans h.1, h'.2.trans h.2⟩
theorem boxes_b {B : Nat} {w : World} (hB : B + 1 < w.heap.size) (W : World) (l : Nat) (o o' : Obj) (hl : w.heap.size ≤ l) (_ : W.heap[l]? = some o) (_ : o.isCells = false) (_ : o.isWalk = false) : BoxesAt B W (W.putObj l o') :=
  ⟨World.putObj_heap_other (by omega), World.putObj_heap_other (by omega)⟩

/-- The bits of some parts, one behind the other. -/
def rparts (l : List Int) (pre : List Nat) : List Bool := pre.flatMap fun j => rblock (rpart l j)
theorem rparts_snoc (l : List Int) (pre : List Nat) (x : Nat) : rparts l (pre ++ [x]) = rparts l pre ++ rblock (rpart l x) := by simp [rparts]
theorem rparts_range (l : List Int) : ∀ j, rparts l (List.range j) = rto l j
  | 0 => rfl
  | j + 1 => by rw [List.range_succ, rparts_snoc, rparts_range l j]; rfl
theorem rparts_length (l : List Int) : ∀ pre : List Nat, (rparts l pre).length ≤ 3589 * pre.length
  | [] => by simp [rparts]
  | x :: r => by
    have ih := rparts_length l r
    have e : rparts l (x :: r) = rblock (rpart l x) ++ rparts l r := by simp [rparts]
    have h2 := rcost_le (rbest_le (rpart l x)) (rpart l x)
    rw [rpart_length] at h2
    rw [e, List.length_append, rblock_length, List.length_cons]
    omega

/-- A part of a list, as Chunk tells it. -/
theorem Row.chunk {w : World} {A : Option Addr} {n : Nat} {l : List Int} (h : Row w .i32 A n l) (x : Nat) : Row w .i32 (A.map fun a => ⟨a.block, a.off + 64 * x, none⟩) (min 64 (n - 64 * x)) (rpart l x) :=
  ⟨by rw [rpart_length, h.len], fun j hj => by
    obtain ⟨b, o, rfl, hb, hc⟩ := h.at_ (64 * x + j) (by omega)
    refine ⟨b, o + 64 * x, rfl, hb, ?_⟩
    rw [Nat.add_assoc, hc, rpart_getD l x j (by omega)]⟩
theorem Row.chunk_in {w : World} {A : Option Addr} {n : Nat} {l : List Int} (h : Row w .i32 A n l) {x b o : Nat} (e : (A.map fun a => (⟨a.block, a.off + 64 * x, none⟩ : Addr)) = some ⟨b, o, none⟩) (hm : 0 < min 64 (n - 64 * x)) : b < w.heap.size := by
  obtain ⟨b', o', rfl, hb, _⟩ := h.at_ 0 (by omega)
  simp only [Option.map_some, Option.some.injEq, Addr.mk.injEq] at e
  omega

set_option maxHeartbeats 3200000 in
/-- Pack: P10.2. -/
theorem cPackR_any (A : Option Addr) (n c : Nat) (l : List Int) (w : World) (hr : Row w .i32 A n l) (h32 : R32 l) (hn : n ≤ 1048576) (hnc : n ≤ c) :
    Calls Try.prog 10 #[.slice A n c] w fun e w' => ∃ u, e = .returned (.tuple #[u, .int .i64 0]) ∧ NewRow w w' 5 .u8 u (pk (rall l)) := by
  refine (callsIn_wide (n := 4)).1 ?_
  have HR := Lib.hid (And.intro hr h32)
  have n0 : ¬ (1048576 : Int) < (n : Int) := by omega
  have hA : 0 < n → ∃ b o, A = some ⟨b, o, none⟩ := fun h0 => by
    obtain ⟨b, o, e, _⟩ := hr.at_ 0 h0
    exact ⟨b, o, e⟩
  have hlen := hr.len
  have HX := Lib.hid (And.intro hA (And.intro hnc (And.intro hn hlen)))
  clear hr h32 hA hlen
  refine callsIn_of_wp_marks Try.func10 rfl trivial ?_ rfl
  simp only [Try.ntmps10, List.size_toArray, List.length_cons, List.length_nil, Nat.reduceAdd, Nat.reduceSub, Array.replicate_succ, Array.replicate_zero, List.push_toArray, List.append_toArray, List.nil_append, List.cons_append]
  gi_wp2_with (refine ⟨trivial, ?_⟩; gi_at_call 24; refine (callsIn_wide.2 (chunk_any A n c _)).mono ?_; rintro e w' ⟨rfl, rfl⟩)
  obtain ⟨W0, hW0⟩ : ∃ W0, W0 = ((w.alloc (.cells #[.slice none 0 0, .int .i64 0] 47)).alloc (.cells #[.slice A n c] 22)).alloc (.cells #[.int .i64 64] 3) := ⟨_, rfl⟩
  have hz : W0.heap.size = w.heap.size + 3 := by rw [hW0]; simp
  have hf0 : Fresh w W0 := by rw [hW0]; exact (((Kept.refl _ _).alloc _).alloc _).alloc _
  have hb1 : Blk W0 (w.heap.size + 1) 22 #[.slice A n c] := by
    rw [hW0]
    have := Blk.new (w.alloc (.cells #[.slice none 0 0, .int .i64 0] 47)) 22 #[.slice A n c]
    rw [World.size_alloc] at this
    exact this.alloc _
  have hb2 : Blk W0 (w.heap.size + 1 + 1) 3 #[.int .i64 64] := by
    rw [hW0]
    have := Blk.new ((w.alloc (.cells #[.slice none 0 0, .int .i64 0] 47)).alloc (.cells #[.slice A n c] 22)) 3 #[.int .i64 64]
    rw [World.size_alloc, World.size_alloc] at this
    exact this
  obtain ⟨A0, hA0⟩ : ∃ A0 : Nat → Prop, A0 = fun k => k < w.heap.size ∨ k = w.heap.size + 1 ∨ k = w.heap.size + 1 + 1 := ⟨_, rfl⟩
  have hc0 : CW A0 W0 w.heap.size [] 47 #[] := by
    have h1 : CW (fun k => k < w.heap.size) (w.alloc (.cells #[.slice none 0 0, .int .i64 0] 47)) w.heap.size [] 47 #[] := CW.new (t := 47) (R := #[]) w (fun k => k < w.heap.size) (fun k e => e) (by decide)
    refine h1.move (S := fun _ => False) (w' := W0) ?_ (fun _ e _ => e.elim) (fun k e => ?_)
    · rw [hW0]; exact ((Kept.refl _ _).alloc _).alloc _
    · rw [hA0] at e
      simp only [World.size_alloc]
      omega
  rw [← hW0]
  have H0 := Lib.hid (And.intro hc0 (And.intro hf0 (And.intro hb1 hb2)))
  clear hc0 hf0 hb1 hb2 hW0
  refine wpIn_rangeFunc_ownG rfl (by omega) (gf := 41) (lb := #[.pointer (some ⟨w.heap.size + 1, 0, none⟩), .pointer (some ⟨w.heap.size + 1 + 1, 0, none⟩)]) rfl trivial (enters_of Try.func41 (by kernel_rfl) rfl)
    (chunk_stops 3 (by omega) (w.heap.size + 1) A n c HX.out.1 HX.out.2.1 HX.out.2.2.1 W0 H0.out.2.2.1 H0.out.2.2.2) boxes_t (boxes_b (by omega)) (Below.refl _ _) (fun _ => rfl)
    (fun pre W => CW A0 W w.heap.size (rparts l pre) 47 #[] ∧ Fresh w W)
    (fun _ _ _ => False)
    (fun s X Y row hs hg hr => ⟨(hs.1.wide.kept (kept_of_grown hg) (fun k e _ => .inr (hr k e).2)).less (fun _ e => .inl e), hs.2.trans (kept_of_grown hg) fun i hi e => by have := (hr i e).1; omega⟩)
    (fun _ _ _ _ _ hs _ _ => hs)
    ⟨by simpa [rparts] using H0.out.1, H0.out.2.1⟩
    (fun x => { tmps := #[.slice A n c, undef, .slice none 0 0, .int .i64 0, .pointer (some ⟨w.heap.size, 0, none⟩), chunkAt A n x, .slice A n c, .int .i64 n, .bool false, .slice A n c, .func (.func 41) #[] #[.pointer (some ⟨w.heap.size + 1, 0, none⟩), .pointer (some ⟨w.heap.size + 1 + 1, 0, none⟩)], chunkAt A n x, undef, undef, undef, undef], defers := [] }) ?assign ?body ?done ?stop
  case assign =>
    intro l x W K hK
    gi_wp2
    exact hK
  case body =>
    rintro L pre x W ⟨hc, hf⟩ hlen
    have hrow := (HR.out.1.chunk x).kept hf (fun _ _ _ _ => id)
    have hsz := rparts_length l pre
    have hpre : (rparts l pre).length ≤ 80000000 := by have := HX.out.2.2.1; unfold chunks at hlen; omega
    have HB := Lib.hid (cBlock_any (fun k => A0 k ∨ NoCells W k) w.heap.size (rparts l pre) #[] _ (min 64 (n - 64 * x)) (min 64 (n - 64 * x)) (rpart l x) W hc.wide hpre hrow (rpart_32 HR.out.2 x) (by omega)
      (fun b o e hm => .inl (by rw [hA0]; exact .inl (HR.out.1.chunk_in e hm))))
    have hlt : w.heap.size + 1 < W.heap.size ∧ w.heap.size + 1 + 1 < W.heap.size := by
      obtain ⟨v, hv⟩ := hc
      exact ⟨hv.there _ (by rw [hA0]; exact .inr (.inl rfl)), hv.there _ (by rw [hA0]; exact .inr (.inr rfl))⟩
    have HF := Lib.hid (And.intro hf hlt)
    clear hc hf hrow hsz hpre hlt
    gi_wp2_with (refine ⟨trivial, ?_⟩; gi_at_call 25; refine (CallsIn.inRound L (callsIn_wide.2 HB.out)).mono ?_; rintro e w1 ⟨rfl, hp⟩)
    refine ⟨KeepsFrom.of _ hp.2 (fun k e e2 => e (.inr e2)), ⟨hp.2.block _ HF.out.2.1 (fun e => e (.inl (by rw [hA0]; exact .inr (.inl rfl)))), hp.2.block _ HF.out.2.2 (fun e => e (.inl (by rw [hA0]; exact .inr (.inr rfl))))⟩, ?_, HF.out.1.trans hp.2 fun i hi e => e (.inl (by rw [hA0]; exact .inl hi))⟩
    rw [rparts_snoc]
    exact hp.1.less fun _ e => .inl e
  case done =>
    rintro D ys W hD rfl ⟨hc, hf⟩ hK
    have hall : rparts l (List.range (chunks n)) = rall l := by
      rw [rparts_range]
      unfold rall chunks rblocks
      rw [HX.out.2.2.2]
    rw [hall] at hc
    have hsm : (rall l).length ≤ 70000000 := by have := rall_length l; have := HX.out.2.2; omega
    have HC := Lib.hid (cwBytes_any A0 w.heap.size (rall l) 47 #[] W hc (by omega))
    have HK := Lib.hid (And.intro hK hf)
    clear hc hf hK hall hsm
    gi_wp2_with (refine ⟨trivial, ?_⟩; gi_at_call 26; refine (callsIn_wide.2 HC.out).mono ?_; rintro e w1 ⟨u, rfl, hu⟩)
    have hK1 : w1.heap[D]? = some (.deferred (some [])) := (hu.2.2.block D (Array.getElem?_eq_some_iff.1 HK.out.1).1 id).trans HK.out.1
    refine ⟨by simp, .inl ⟨_, _, rfl, run_takeDeferred hK1, ?_⟩⟩
    have hg := kept_of_grown (grownBy_putObj' w1 D (.deferred none))
    exact ⟨_, results_tmp2 rfl _ _ _, u, rfl, hu.1.kept hg (fun g e e2 => by cases e2; exact hu.1.cells e ⟨_, hK1, rfl⟩), fun g e => Nat.le_trans HK.out.2.size (hu.2.1 g e),
      (HK.out.2.trans hu.2.2 fun _ _ e => e).trans hg fun i hi e => by cases e; omega⟩
  case stop =>
    rintro D c pre W _ _ h _
    exact h.elim

end Go.Proofs.Ytlnhpdikdefgoaa
