/- The code's Unpack of rice. -/
import Derived.Test.YtlnhpdikdefgoaaRicF
import Derived.Test.YtlnhpdikdefgoaaEqual
import Derived.Test.YtlnhpdikdefgoaaZeros
namespace Go.Proofs.Ytlnhpdikdefgoaa
open Go.RowKit Go.Shelf
set_option maxRecDepth 100000

attribute [local go_sem] Oper.semAt_some

theorem wpListIn_make_zeros {F : Fence} {d : Nat} {P : Program} (w : World) {ops : Array Oper} {rest : List Oper} {o : Oper} {a : Act} {Q : Exit → Act → World → Prop}
    (hg : o.guard = none) (l c : Operand) (t : TypeId) (hop : o.op = Op.makeSlice t l c)
    (e : TypeId) (i : TypeInfo) (k : IntKind) (bytes : Nat) (h1 : P.underlying t = some (.slice e)) (h2 : P.info? e = some i) (h3 : i.zero = some (.int k 0)) (h4 : i.size = 1) (h5 : i.bytes = bytes)
    (kl kc : IntKind) (L C : Int) (n : Nat) (hl : a.eval l = .int kl L) (hc : a.eval c = .int kc C) (hL : L = (n : Int)) (hC : C = (n : Int)) (b2 : bytes * n ≤ 281474976710656) (b3 : n ≤ maxLen)
    (hK : ∀ w', Own w' e k (.slice (some ⟨w.heap.size, 0, none⟩) n n) (List.replicate n 0) → Fresh w w' → wpListIn F d P ops Q rest (a.put o.dst (.slice (some ⟨w.heap.size, 0, none⟩) n n)) w') :
    wpListIn F d P ops Q (o :: rest) a w := by
  refine wpListIn_plain hg fun K hK' => ?_
  obtain ⟨w', hrun, r1, r2⟩ := run_make_full (P := P) w 0 t e i (.int k 0) 1 h1 h2 h3 h4 kl kc n (by rw [h5]; exact b2) b3 (by omega)
  subst hL
  subst hC
  unfold Oper.wpIn
  refine ⟨?_, ?_⟩
  · simp [Oper.about, hop]
  · rw [Oper.semAt_plain F _ _ (by rw [hop]; intro c hc'; cases hc')]
    simp [execOp, hop, hl, hc, hrun, Result.andThen]
    refine hK' _ _ (hK w' ?_ ((Kept.refl _ _).grown r2 (fun k e _ => by cases e)))
    rw [Nat.mul_one, show (Value.int k 0).cells = #[Value.int k 0] from rfl, made_zeros] at r1
    unfold Own
    rw [List.length_replicate]
    exact r1

theorem Row.cells {w : World} {k : IntKind} {b o n : Nat} {xs : List Int} (h : Row w k (some ⟨b, o, none⟩) n xs) (h0 : 0 < n) : ¬ NoCells w b := by
  obtain ⟨b', o', e, _, hc⟩ := h.at_ 0 h0
  injection e with e
  injection e with e1 e2
  subst e1 e2
  obtain ⟨q, hq, hc2⟩ := cells_of_cell hc
  rintro ⟨q', hq', hc3⟩
  simp only [] at hq
  rw [hq] at hq'
  injection hq' with hq'
  subst hq'
  rw [hc2] at hc3
  cases hc3

/-- Between two rounds. -/
structure UnH (w : World) (g : Nat) (B : Option Addr) (cB : Nat) (bs : List Int) (n lb b6 d p : Nat) (xs : List Int) (W : World) : Prop where
  len : xs.length = n
  rd : Rd W g 81 B cB bs p 0
  own : Own W 21 .i32 (.slice (some ⟨lb, 0, none⟩) n n) xs
  box : Blk W b6 65 #[.pointer (some ⟨g, 0, none⟩)]
  r0 : Blk W w.heap.size 22 #[.slice none 0 0]
  r1 : Blk W (w.heap.size + 1) 26 #[.int .i64 0]
  fr : Fresh w W
  big : d ≤ W.heap.size
theorem UnH.nc {w : World} {g : Nat} {B : Option Addr} {cB : Nat} {bs : List Int} {n lb b6 d p : Nat} {xs : List Int} {S : Nat → Prop} {X Y : World} (h : UnH w g B cB bs n lb b6 d p xs X) (hk : Kept S X Y) (hS : ∀ k, S k → NoCells X k ∧ w.heap.size ≤ k) : UnH w g B cB bs n lb b6 d p xs Y :=
  ⟨h.len, ⟨h.rd.blk.kept hk (fun e => h.rd.blk.cells (hS _ e).1), h.rd.row.kept hk (fun b o e h0 e2 => (e ▸ h.rd.row).cells h0 (hS _ e2).1), h.rd.byte, h.rd.le, h.rd.small⟩, h.own.kept hk (fun k e e2 => h.own.cells e (hS _ e2).1),
   h.box.kept hk (fun e => h.box.cells (hS _ e).1), h.r0.kept hk (fun e => h.r0.cells (hS _ e).1), h.r1.kept hk (fun e => h.r1.cells (hS _ e).1), h.fr.trans hk fun i hi e => (by have := (hS i e).2; omega), Nat.le_trans h.big hk.size⟩
/-- Behind a round that has left. -/
structure UnL (w : World) (W : World) : Prop where
  r0 : Blk W w.heap.size 22 #[.slice none 0 0]
  r1 : Blk W (w.heap.size + 1) 26 #[.int .i64 4]
  fr : Fresh w W
theorem UnL.nc {w : World} {S : Nat → Prop} {X Y : World} (h : UnL w X) (hk : Kept S X Y) (hS : ∀ k, S k → NoCells X k ∧ w.heap.size ≤ k) : UnL w Y :=
  ⟨h.r0.kept hk (fun e => h.r0.cells (hS _ e).1), h.r1.kept hk (fun e => h.r1.cells (hS _ e).1), h.fr.trans hk fun i hi e => by have := (hS i e).2; omega⟩

/-- The two results are written, the rounds' deferred calls are shut. -/
theorem results_at {w W : World} {D : Nat} {cs ds : Array Value} (h0 : Blk W w.heap.size 22 cs) (h1 : Blk W (w.heap.size + 1) 26 ds) (hc : cs.size = 1) (hd : ds.size = 1) (hK : W.heap[D]? = some (.deferred (some []))) (hD : w.heap.size ≤ D) (hf : Fresh w W) (v : Value) (er : Int) :
    ((W.setCell ⟨w.heap.size, 0, none⟩ v).setCell ⟨w.heap.size + 1, 0, none⟩ (.int .i64 er)).heap[D]? = some (.deferred (some [])) ∧
    (((W.setCell ⟨w.heap.size, 0, none⟩ v).setCell ⟨w.heap.size + 1, 0, none⟩ (.int .i64 er)).putObj D (.deferred none)).cell? ⟨w.heap.size, 0, none⟩ = some v ∧
    (((W.setCell ⟨w.heap.size, 0, none⟩ v).setCell ⟨w.heap.size + 1, 0, none⟩ (.int .i64 er)).putObj D (.deferred none)).cell? ⟨w.heap.size + 1, 0, none⟩ = some (.int .i64 er) ∧
    Kept (fun k => k = w.heap.size ∨ k = w.heap.size + 1 ∨ k = D) W (((W.setCell ⟨w.heap.size, 0, none⟩ v).setCell ⟨w.heap.size + 1, 0, none⟩ (.int .i64 er)).putObj D (.deferred none)) ∧
    Fresh w (((W.setCell ⟨w.heap.size, 0, none⟩ v).setCell ⟨w.heap.size + 1, 0, none⟩ (.int .i64 er)).putObj D (.deferred none)) := by
  have n0 : D ≠ w.heap.size := by
    rintro rfl
    exact h0.cells ⟨_, hK, rfl⟩
  have n1 : D ≠ w.heap.size + 1 := by
    rintro rfl
    exact h1.cells ⟨_, hK, rfl⟩
  have k1 : Kept (fun k => k = w.heap.size ∨ k = w.heap.size + 1) W ((W.setCell ⟨w.heap.size, 0, none⟩ v).setCell ⟨w.heap.size + 1, 0, none⟩ (.int .i64 er)) :=
    ((Kept.refl _ _).setCell (p := ⟨w.heap.size, 0, none⟩) (fun _ => .inl rfl) v).setCell (p := ⟨w.heap.size + 1, 0, none⟩) (fun _ => .inr rfl) (.int .i64 er)
  have hK2 : ((W.setCell ⟨w.heap.size, 0, none⟩ v).setCell ⟨w.heap.size + 1, 0, none⟩ (.int .i64 er)).heap[D]? = some (.deferred (some [])) := (k1.block D (Array.getElem?_eq_some_iff.1 hK).1 (by omega)).trans hK
  have g0 := ((h0.set_ 0 v).far (p := ⟨w.heap.size + 1, 0, none⟩) (by simp) (.int .i64 er)).kept (kept_of_grown (grownBy_putObj' _ D (.deferred none))) (fun e => by injection e with e; exact n0 e)
  have g1 := ((h1.far (p := ⟨w.heap.size, 0, none⟩) (by simp) v).set_ 0 (.int .i64 er)).kept (kept_of_grown (grownBy_putObj' _ D (.deferred none))) (fun e => by injection e with e; exact n1 e)
  refine ⟨hK2, ?_, ?_, ?_, ?_⟩
  · rw [g0.cell 0]; simp [hc]
  · rw [g1.cell 0]; simp [hd]
  · exact (k1.mono (T := fun k => k = w.heap.size ∨ k = w.heap.size + 1 ∨ k = D) fun i _ e => by rcases e with e | e <;> simp [e]).trans (kept_of_grown (grownBy_putObj' _ D (.deferred none))) fun i _ e => by injection e with e; simp [e]
  · exact (hf.trans k1 fun i hi e => by omega).trans (kept_of_grown (grownBy_putObj' _ D (.deferred none))) fun i hi e => by injection e with e; omega

set_option maxHeartbeats 3200000 in
/-- Unpack: P10.2. -/
theorem cUnpackR_any (A : Option Addr) (nb c : Nat) (bs : List Int) (n : Nat) (w : World) (hr : Row w .u8 A nb bs) (hby : ∀ x ∈ bs, 0 ≤ x ∧ x < 256) (hnb : nb ≤ 100000000) (hn : n ≤ 1048576) :
    Calls Try.prog 19 #[.slice A nb c, .int .i64 n] w fun e w' => UnPR w w' e bs n := by
  refine (callsIn_wide (n := 6)).1 ?_
  obtain ⟨i4, hi4, h40, h41, h42⟩ := info_parts Try.infoI32
  have HR := Lib.hid (And.intro hr hby)
  obtain rfl := hr.len
  have n0 : ¬ (n : Int) < 0 := by omega
  have n1 : ¬ (1048576 : Int) < (n : Int) := by omega
  obtain ⟨Wa, hWa⟩ : ∃ Wa, Wa = (w.alloc (.cells #[.slice none 0 0] 22)).alloc (.cells #[.int .i64 0] 26) := ⟨_, rfl⟩
  have hza : Wa.heap.size = w.heap.size + 2 := by rw [hWa]; simp
  have hfa : Fresh w Wa := by rw [hWa]; exact ((Kept.refl _ _).alloc _).alloc _
  have ha0 : Blk Wa w.heap.size 22 #[.slice none 0 0] := by rw [hWa]; exact (Blk.new _ _ _).alloc _
  have ha1 : Blk Wa (w.heap.size + 1) 26 #[.int .i64 0] := by
    rw [hWa]
    have := Blk.new (w.alloc (.cells #[.slice none 0 0] 22)) 26 #[.int .i64 0]
    rw [World.size_alloc] at this
    exact this
  have HN := Lib.hid (rNew_any A bs.length c bs Wa (hr.kept hfa (fun _ _ _ _ => id)) hnb (fun j => by
    by_cases hj : j < bs.length
    · exact hby _ (by simp [List.getD, hj])
    · simp [List.getD, List.getElem?_eq_none (Nat.le_of_not_lt hj)]))
  have HA := Lib.hid (And.intro hfa (And.intro ha0 ha1))
  clear hr hby hfa ha0 ha1
  refine callsIn_of_wp_marks Try.func19 rfl trivial ?_ rfl
  simp only [Try.ntmps19, List.size_toArray, List.length_cons, List.length_nil, Nat.reduceAdd, Nat.reduceSub, Array.replicate_succ, Array.replicate_zero, List.push_toArray, List.append_toArray, List.nil_append, List.cons_append]
  gi_wp2_with (first
    | (refine ⟨trivial, ?_⟩; gi_at_call 32; (try rw [← hWa]); refine (callsIn_wide.2 HN.out).mono ?_; rintro e w1 ⟨g, B, cB, rfl, hrd, hg, hB, hf1⟩)
    | (gi_at_make; refine wpListIn_make_zeros _ rfl _ _ 22 rfl 21 i4 .i32 4 Try.underlying22 hi4 h40 h41 h42 .i64 .i64 (n : Int) (n : Int) n rfl rfl rfl rfl (by omega) (by unfold maxLen; omega) ?_; intro w2 ho2 hf2)
    | (refine ⟨trivial, ?_⟩; gi_at_call 24; refine (callsIn_wide.2 (chunk_any _ n n _)).mono ?_; rintro e w' ⟨rfl, rfl⟩))
  obtain ⟨W0, hW0⟩ : ∃ W0, W0 = (w2.alloc (.cells #[.slice (some ⟨w1.heap.size + 1, 0, none⟩) n n] 22)).alloc (.cells #[.int .i64 64] 3) := ⟨_, rfl⟩
  have ho2' : Own w2 21 .i32 (.slice (some ⟨w1.heap.size + 1, 0, none⟩) n n) (List.replicate n 0) := by simpa using ho2
  have hz : W0.heap.size = w2.heap.size + 2 := by rw [hW0]; simp
  have hlb : w1.heap.size + 1 < w2.heap.size := ho2'.lt (g := w1.heap.size + 1) rfl
  have hgl := hrd.blk.lt
  have hk1 : Fresh w1 W0 := by rw [hW0]; exact ((((Kept.refl (fun _ => False) w1).alloc _).trans hf2 (fun _ _ e => e)).alloc _).alloc _
  have hk2 : Fresh w2 W0 := by rw [hW0]; exact ((Kept.refl _ _).alloc _).alloc _
  have hb1 : Blk W0 w2.heap.size 22 #[.slice (some ⟨w1.heap.size + 1, 0, none⟩) n n] := by rw [hW0]; exact (Blk.new _ _ _).alloc _
  have hb2 : Blk W0 (w2.heap.size + 1) 3 #[.int .i64 64] := by
    rw [hW0]
    have := Blk.new (w2.alloc (.cells #[.slice (some ⟨w1.heap.size + 1, 0, none⟩) n n] 22)) 3 #[.int .i64 64]
    rw [World.size_alloc] at this
    exact this
  have hbx : Blk w2 w1.heap.size 65 #[.pointer (some ⟨g, 0, none⟩)] := (Blk.new w1 65 #[.pointer (some ⟨g, 0, none⟩)]).kept hf2 id
  have hst : UnH w g B cB bs n (w1.heap.size + 1) w1.heap.size W0.heap.size 0 (List.replicate n 0) W0 :=
    ⟨by simp, ⟨hrd.blk.kept hk1 id, hrd.row.kept hk1 (fun _ _ _ _ => id), hrd.byte, hrd.le, hrd.small⟩, ho2'.kept hk2 (fun _ _ => id), hbx.kept hk2 id, (HA.out.2.1.kept hf1 id).kept hk1 id, (HA.out.2.2.kept hf1 id).kept hk1 id, (HA.out.1.trans hf1 fun _ _ e => e).trans hk1 fun _ _ e => e, Nat.le_refl _⟩
  have hBl : ∀ b o, B = some ⟨b, o, none⟩ → 0 < bs.length → b ≠ w1.heap.size + 1 := fun b o e h0 => by
    obtain ⟨b', o', e', hb', _⟩ := hrd.row.at_ 0 h0
    rw [e] at e'
    injection e' with e'
    injection e' with e1 _
    omega
  have hsz : w.heap.size + 2 ≤ g ∧ g < w1.heap.size := by omega
  have hsz1 : w1.heap.size + 1 < w2.heap.size := hlb
  rw [← hW0]
  have H0 := Lib.hid (And.intro hst (And.intro hb1 (And.intro hb2 hBl)))
  clear hst hb1 hb2 hBl hbx hk1 hk2 hgl hlb ho2 ho2' hf2 hf1 hB hrd hg hW0 HN
  refine wpIn_rangeFunc_ownG rfl (by omega) (gf := 41) (lb := #[.pointer (some ⟨w2.heap.size, 0, none⟩), .pointer (some ⟨w2.heap.size + 1, 0, none⟩)]) rfl trivial (enters_of Try.func41 (by kernel_rfl) rfl)
    (chunk_stops 5 (by omega) w2.heap.size (some ⟨w1.heap.size + 1, 0, none⟩) n n (fun _ => ⟨_, _, rfl⟩) (Nat.le_refl _) hn W0 H0.out.2.1 H0.out.2.2.1) boxes_t (boxes_b (by omega)) (Below.refl _ _) (fun _ => rfl)
    (fun pre W => ∃ p xs, ust bs n pre = some (p, xs) ∧ UnH w g B cB bs n (w1.heap.size + 1) w1.heap.size W0.heap.size p xs W)
    (fun c pre W => c = .ret ∧ ust bs n pre = none ∧ UnL w W)
    (fun s X Y row hs hg hr => by obtain ⟨p, xs, hu, h⟩ := hs; exact ⟨p, xs, hu, h.nc (kept_of_grown hg) fun k e => ⟨(hr k e).2, by have := (hr k e).1; omega⟩⟩)
    (fun c s X Y row hs hg hr => ⟨hs.1, hs.2.1, hs.2.2.nc (kept_of_grown hg) fun k e => ⟨(hr k e).2, by have := (hr k e).1; omega⟩⟩)
    ⟨0, _, rfl, H0.out.1⟩
    (fun x => { tmps := #[.slice A bs.length c, .int .i64 n, undef, undef, .pointer (some ⟨w.heap.size, 0, none⟩), .pointer (some ⟨w.heap.size + 1, 0, none⟩), .pointer (some ⟨w1.heap.size, 0, none⟩), .slice (some ⟨w1.heap.size + 1, 0, none⟩) n n, chunkAt (some ⟨w1.heap.size + 1, 0, none⟩) n x, undef, undef, .bool false, .int .i64 n, .bool false, .bool false, .int .i64 n, .bool false, .slice A bs.length c, .pointer (some ⟨g, 0, none⟩), .agg #[.pointer (some ⟨g, 0, none⟩)], .int .i64 n, .slice (some ⟨w1.heap.size + 1, 0, none⟩) n n, .slice (some ⟨w1.heap.size + 1, 0, none⟩) n n,
      .func (.func 41) #[] #[.pointer (some ⟨w2.heap.size, 0, none⟩), .pointer (some ⟨w2.heap.size + 1, 0, none⟩)], chunkAt (some ⟨w1.heap.size + 1, 0, none⟩) n x, undef, undef, undef, undef, undef, undef, undef, undef, undef, undef, undef, undef, undef, undef], defers := [] }) ?assign ?body ?done ?stop
  case assign =>
    intro l x W K hK
    gi_wp2
    exact hK
  case body =>
    rintro L pre x W ⟨p, xs, hu, h⟩ hlen
    have HC := Lib.hid (cStep_any g B cB bs p (w1.heap.size + 1) n n x xs W h.rd h.own h.len H0.out.2.2.2)
    have c6 := h.box.cell 0
    simp only [List.getElem?_toArray, List.getElem?_cons_zero] at c6
    have hl0 := h.r0.lt
    have hl1 := h.r1.lt
    have hnc : ∀ k, (k = g ∨ k = w1.heap.size + 1) → ¬ NoCells W k := fun k e => by
      rcases e with rfl | rfl
      · exact h.rd.blk.cells
      · exact h.own.cells rfl
    have HH := Lib.hid (And.intro h (And.intro hu hnc))
    clear h hu hnc hlen
    rcases hs : ustep bs n (p, xs) x with _ | s
    · have HS := Lib.hid hs
      rw [hs] at HC
      clear hs
      gi_wp2_with (refine ⟨trivial, ?_⟩; gi_at_call 33; refine (CallsIn.inRound L (callsIn_wide.2 HC.out)).mono ?_; rintro e w3 ⟨rfl, hk, _⟩
                   have b0 := HH.out.1.r0.kept hk (by omega)
                   have b1 := HH.out.1.r1.kept hk (by omega)
                   have c4 := b0.cell 0
                   have c5 := b1.cell 0
                   simp only [List.getElem?_toArray, List.getElem?_cons_zero] at c4 c5
                   have f4 := b0.frozen 0
                   have f5 := b1.frozen 0
                   have H3 := Lib.hid (And.intro hk (And.intro b0 b1))
                   clear hk b0 b1
                   simp only [Option.isSome_none])
      refine ⟨?_, rfl, ?_, ?_, ?_, ?_⟩
      · refine KeepsFrom.of (S := fun k => (k = g ∨ k = w1.heap.size + 1) ∨ k = w.heap.size ∨ k = w.heap.size + 1) _ (((H3.out.1.mono fun _ _ e => .inl e).setCell (p := ⟨w.heap.size, 0, none⟩) (fun _ => .inr (.inl rfl)) _).setCell (p := ⟨w.heap.size + 1, 0, none⟩) (fun _ => .inr (.inr rfl)) _) fun k e => ?_
        rcases e with e | rfl | rfl
        · exact HH.out.2.2 k e
        · exact HH.out.1.r0.cells
        · exact HH.out.1.r1.cells
      · rw [ust_snoc, HH.out.2.1]
        exact HS.out
      · exact (H3.out.2.1.set_ 0 _).far (p := ⟨w.heap.size + 1, 0, none⟩) (by simp) _
      · exact (H3.out.2.2.far (p := ⟨w.heap.size, 0, none⟩) (by simp) _).set_ 0 _
      · exact ((HH.out.1.fr.trans H3.out.1 fun i hi e => by omega).setCell (p := ⟨w.heap.size, 0, none⟩) (fun e => by simp at e) _).setCell (p := ⟨w.heap.size + 1, 0, none⟩) (fun e => by simp at e; omega) _
    · have HS := Lib.hid hs
      rw [hs] at HC
      clear hs
      gi_wp2_with (refine ⟨trivial, ?_⟩; gi_at_call 33; refine (CallsIn.inRound L (callsIn_wide.2 HC.out)).mono ?_; rintro e w3 ⟨rfl, hk, hnx⟩; simp only [Option.isSome_some])
      have hbig := HH.out.1.big
      obtain ⟨hrd, hown⟩ := hnx s rfl
      refine ⟨KeepsFrom.of _ hk HH.out.2.2, ⟨hk.block _ (by omega) (by omega), hk.block _ (by omega) (by omega)⟩, s.1, s.2, ?_, ?_⟩
      · rw [ust_snoc, HH.out.2.1]
        exact HS.out
      · exact ⟨ustep_len HS.out HH.out.1.len, hrd, hown, HH.out.1.box.kept hk (by omega), HH.out.1.r0.kept hk (by omega), HH.out.1.r1.kept hk (by omega), HH.out.1.fr.trans hk fun i hi e => by omega, Nat.le_trans hbig hk.size⟩
  case done =>
    rintro D ys W hD rfl ⟨p, xs, hu, h⟩ hK
    obtain ⟨h32, hlen, hun⟩ := ust_all hu
    have hrow : Row W .i32 (some ⟨w1.heap.size + 1, 0, none⟩) n xs := ⟨h.len, fun j hj => ⟨_, 0, rfl, h.own.lt rfl, by simpa using h.own.cellN h.len hj⟩⟩
    have HP := Lib.hid (cPackR_any (some ⟨w1.heap.size + 1, 0, none⟩) n n xs W hrow h32 hn (Nat.le_refl n))
    have HU := Lib.hid hun
    have HK := Lib.hid (And.intro hK h)
    clear hu h32 hlen hun hrow h hK
    gi_wp2_with (refine ⟨trivial, ?_⟩; gi_at_call 10; refine (callsIn_wide.2 HP.out).mono ?_; rintro e w7 ⟨u, rfl, hun, hnew, hf7⟩; obtain ⟨Au, cu, rfl, hru, _⟩ := hun.row)
    have h7 := HK.out.2.nc hf7 fun _ e => e.elim
    have hK7 : w7.heap[D]? = some (.deferred (some [])) := (hf7.block D (Array.getElem?_eq_some_iff.1 HK.out.1).1 id).trans HK.out.1
    have HE := Lib.hid (equal_any Au A (pk (rall xs)).length bs.length cu c (pk (rall xs)) bs w7 hru (HR.out.1.kept h7.fr (fun _ _ _ _ => id)) (pk_bytes _) HR.out.2)
    have c4 := h7.r0.cell 0
    have c5 := h7.r1.cell 0
    simp only [List.getElem?_toArray, List.getElem?_cons_zero] at c4 c5
    have f4 := h7.r0.frozen 0
    have f5 := h7.r1.frozen 0
    have H7 := Lib.hid (And.intro h7 hK7)
    have hDw : w.heap.size ≤ D := by omega
    clear hun hnew hf7 hru h7 hK7 HP HK
    generalize (pk (rall xs)).length = lu at *
    by_cases hok : pk (rall xs) = bs
    · rw [decide_eq_true hok] at HE
      rw [if_pos hok] at HU
      clear hok
      gi_wp2_with (refine ⟨trivial, ?_⟩; gi_at_call 34; refine (callsIn_wide.2 HE.out).mono ?_; rintro e w8 ⟨rfl, rfl⟩)
      obtain ⟨q1, q2, q3, q4, q5⟩ := results_at H7.out.1.r0 H7.out.1.r1 rfl rfl H7.out.2 hDw H7.out.1.fr (.slice (some ⟨w1.heap.size + 1, 0, none⟩) n n) 0
      refine ⟨by simp, .inl ⟨_, _, rfl, run_takeDeferred q1, ?_⟩⟩
      refine ⟨.tuple #[.slice (some ⟨w1.heap.size + 1, 0, none⟩) n n, .int .i64 0], by simp [results, Try.f19, go_sem, q2, q3], ?_⟩
      unfold UnPR
      rw [HU.out]
      refine ⟨_, rfl, H7.out.1.own.kept q4 (fun k e e2 => ?_), fun k e => ?_, q5⟩
      · have e3 : w1.heap.size + 1 = k := by simpa [Value.ownBlock] using e
        subst e3
        rcases e2 with e2 | e2 | e2
        · omega
        · omega
        · exact H7.out.1.own.cells rfl ⟨_, e2 ▸ H7.out.2, rfl⟩
      · have e3 : w1.heap.size + 1 = k := by simpa [Value.ownBlock] using e
        omega
    · rw [decide_eq_false hok] at HE
      rw [if_neg hok] at HU
      clear hok
      gi_wp2_with (refine ⟨trivial, ?_⟩; gi_at_call 34; refine (callsIn_wide.2 HE.out).mono ?_; rintro e w8 ⟨rfl, rfl⟩)
      obtain ⟨q1, q2, q3, q4, q5⟩ := results_at H7.out.1.r0 H7.out.1.r1 rfl rfl H7.out.2 hDw H7.out.1.fr (.slice none 0 0) 4
      refine ⟨by simp, .inl ⟨_, _, rfl, run_takeDeferred q1, ?_⟩⟩
      refine ⟨.tuple #[.slice none 0 0, .int .i64 4], by simp [results, Try.f19, go_sem, q2, q3], ?_⟩
      unfold UnPR
      rw [HU.out]
      exact ⟨_, rfl, Own.nil _ _ _, fun k e => (by cases e), q5⟩
  case stop =>
    rintro D cc pre W hD ⟨k, hk, rfl⟩ ⟨rfl, hu, h⟩ hK
    have hun := ust_none hu hk
    gi_wp2
    have k1 := kept_of_grown (grownBy_putObj' W D (.deferred none))
    have b0 := h.r0.kept k1 (fun e => h.r0.cells ⟨_, by injection e with e; exact e ▸ hK, rfl⟩)
    have b1 := h.r1.kept k1 (fun e => h.r1.cells ⟨_, by injection e with e; exact e ▸ hK, rfl⟩)
    have q2 := b0.cell 0
    have q3 := b1.cell 0
    simp only [List.getElem?_toArray, List.getElem?_cons_zero] at q2 q3
    refine ⟨by simp, .inl ⟨_, _, rfl, run_takeDeferred hK, ?_⟩⟩
    refine ⟨.tuple #[.slice none 0 0, .int .i64 4], by simp [results, Try.f19, go_sem, q2, q3], ?_⟩
    unfold UnPR
    rw [hun]
    exact ⟨_, rfl, Own.nil _ _ _, fun k e => (by cases e), h.fr.trans k1 fun i hi e => by injection e with e; omega⟩

end Go.Proofs.Ytlnhpdikdefgoaa
