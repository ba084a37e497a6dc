/- The code's pixels by their green: colourOK. -/
import Derived.Test.YtcogdehpodfkpaaColC
import Derived.Test.YtcogdehpodfkpaaFilK
import Derived.Test.YtcogdehpodfkpaaStillIn
namespace Go.Proofs.Ytcogdehpodfkpaa
open Go.RowKit Go.Shelf
set_option maxRecDepth 100000

attribute [local go_sem] Oper.semAt_some

/-- One pixel more. -/
def tpx (s : Int) (l : List Int) (x : Nat) : List Int := (l.set (x * 3) ((l.getD (x * 3) 0 + s * l.getD (x * 3 + 1) 0) % 256)).set (x * 3 + 2) ((l.getD (x * 3 + 2) 0 + s * l.getD (x * 3 + 1) 0) % 256)
def tpxs (s : Int) (bs : List Int) (pre : List Nat) : List Int := pre.foldl (tpx s) bs
theorem tpx_length (s : Int) (l : List Int) (x : Nat) : (tpx s l x).length = l.length := by simp [tpx]
theorem tpxs_length (s : Int) : ∀ (pre : List Nat) (bs : List Int), (tpxs s bs pre).length = bs.length
  | [], _ => rfl
  | x :: r, bs => (tpxs_length s r (tpx s bs x)).trans (tpx_length s bs x)
theorem tpxs_snoc (s : Int) (bs : List Int) (pre : List Nat) (x : Nat) : tpxs s bs (pre ++ [x]) = tpx s (tpxs s bs pre) x := by simp [tpxs]
theorem set_byte {l : List Int} (h : B8 l) (i : Nat) (v : Int) : B8 (l.set i (v % 256)) := fun x hx => by
  rcases List.mem_or_eq_of_mem_set hx with hx | rfl
  · exact h x hx
  · omega
theorem tpxs_byte (s : Int) : ∀ (pre : List Nat) (bs : List Int), B8 bs → B8 (tpxs s bs pre)
  | [], _, h => h
  | x :: r, bs, h => tpxs_byte s r (tpx s bs x) (set_byte (set_byte h _ _) _ _)
theorem tpxs_range (s : Int) (bs : List Int) : ∀ q, 3 * q ≤ bs.length → tpxs s bs (List.range q) = trnTo s bs q
  | 0, _ => (trnTo_zero s bs).symm
  | q + 1, h => by
    have g : ∀ i, 3 * q ≤ i → i < bs.length → (trnTo s bs q).getD i 0 = bs.getD i 0 := fun i h1 h2 => by rw [trnTo, tn_getD h2, if_neg (by omega)]
    rw [List.range_succ, tpxs_snoc, tpxs_range s bs q (by omega), tpx, Nat.mul_comm q 3, g _ (by omega) (by omega), g _ (by omega) (by omega), g _ (by omega) (by omega)]
    exact trnTo_next (by omega)

/-- Between two rounds. -/
structure GrH (w : World) (A : Option Addr) (N cap : Nat) (s : Int) (bs : List Int) (d : Nat) (pre : List Nat) (W : World) : Prop where
  b0 : Blk W w.heap.size 3 #[.int .i64 s]
  own : Own W 5 .u8 (.slice A N cap) (tpxs s bs pre)
  fr : Fresh w W
  big : d ≤ W.heap.size
theorem GrH.nc {w : World} {A : Option Addr} {N cap : Nat} {s : Int} {bs : List Int} {d : Nat} {pre : List Nat} {S : Nat → Prop} {X Y : World} (h : GrH w A N cap s bs d pre X) (hk : Kept S X Y) (hS : ∀ k, S k → NoCells X k ∧ w.heap.size ≤ k) : GrH w A N cap s bs d pre Y :=
  ⟨h.b0.kept hk (fun e => h.b0.cells (hS _ e).1), h.own.kept hk (fun k e e2 => h.own.cells e (hS _ e2).1), h.fr.trans hk fun i hi e => (by have := (hS i e).2; omega), Nat.le_trans h.big hk.size⟩

set_option maxHeartbeats 3200000 in
/-- The outer bytes of each pixel, its green added so many times. -/
theorem cGreen_any (A : Option Addr) (n c : Nat) (bs : List Int) (s : Int) (w : World) (hr : Row w .u8 A n bs) (h8 : B8 bs) (hn : n ≤ 1048576) (hs : -1 ≤ s ∧ s ≤ 1) :
    Calls Try.prog 19 #[.slice A n c, .int .i64 s] w fun e w' => ∃ u, e = .returned u ∧ NewRow w w' 5 .u8 u (trn s bs) := by
  refine (callsIn_wide (n := 6)).1 ?_
  obtain rfl := hr.len
  have HC : Hid (∀ V, Fresh w V → Calls Try.prog 23 #[.slice A bs.length c] V fun e w' => ∃ v, e = .returned v ∧ NewRow V w' 5 .u8 v bs) := Lib.hid fun V hV => bClone_any A bs.length c bs V (hr.kept hV (fun _ _ _ _ => id)) (by omega)
  have hdiv : (bs.length : Int).tdiv 3 = ((bs.length / 3 : Nat) : Int) := by rw [Int.tdiv_eq_ediv_of_nonneg (by omega), Int.natCast_ediv]; rfl
  obtain ⟨R, hRe⟩ : ∃ R, R = bs.length / 3 := ⟨_, rfl⟩
  have hR : R * 3 ≤ bs.length := by omega
  rw [← hRe] at hdiv
  obtain ⟨N, hN⟩ : ∃ N, N = R * 3 := ⟨_, rfl⟩
  have hNi : (R : Int) * 3 = (N : Int) := by omega
  have hNn : N ≤ bs.length := by omega
  have w1 : IntKind.i64.wrap (R : Int) = (R : Int) := IntWalk.i64_in _ (by omega)
  have w2 : IntKind.i64.wrap (N : Int) = (N : Int) := IntWalk.i64_in _ (by omega)
  have hsz1 : ∀ w, (sizeOf 5).run Try.prog w = .ok 1 w := fun w => by kernel_rfl
  have HR := Lib.hid (And.intro h8 (And.intro hRe hN))
  clear hr h8 hR hRe hN
  have ha0 : Blk (w.alloc (.cells #[.int .i64 s] 3)) w.heap.size 3 #[.int .i64 s] := Blk.new _ _ _
  have HA := Lib.hid (And.intro ha0 ((Kept.refl (fun _ => False) w).alloc (.cells #[.int .i64 s] 3)))
  clear ha0
  refine callsIn_of_wp_marks Try.func19 rfl trivial ?_ rfl
  simp only [Try.ntmps19, List.size_toArray, List.length_cons, List.length_nil, Nat.reduceAdd, Nat.reduceSub, Array.replicate_succ, Array.replicate_zero, List.push_toArray, List.append_toArray, List.nil_append, List.cons_append]
  gi_wp2_with (first
    | (refine ⟨trivial, ?_⟩; gi_at_call 23; refine (callsIn_wide.2 (HC.out _ HA.out.2)).mono ?_; rintro e v1 ⟨v, rfl, hv⟩
       have hv1 := hv.1
       have hcap := hv1
       obtain ⟨B, cB, rfl, _, _⟩ := hv1.row
       have hcap := hcap.cap
       have hs1 : ∀ V, (Instr.slice 22 (.slice B bs.length cB) none (some (.int .i64 (N : Int))) none).run Try.prog V = .ok (.slice B N cB) V := fun V => run_slice_upto 22 5 Try.underlying22 hsz1 B bs.length cB N (N : Int) rfl (by omega) V)
    | (refine ⟨trivial, ?_⟩; gi_at_call 24; refine (callsIn_wide.2 (chunkB_any _ N _ 3 _ (by omega))).mono ?_; rintro e w' ⟨rfl, rfl⟩))
  obtain ⟨W0, hW0⟩ : ∃ W0, W0 = (v1.alloc (.cells #[.slice B N cB] 22)).alloc (.cells #[.int .i64 3] 3) := ⟨_, rfl⟩
  have hz0 : W0.heap.size = v1.heap.size + 2 := by rw [hW0]; simp
  have hf0 : Fresh v1 W0 := by rw [hW0]; exact ((Kept.refl _ _).alloc _).alloc _
  have hc1 : Blk W0 v1.heap.size 22 #[.slice B N cB] := by rw [hW0]; exact (Blk.new _ _ _).alloc _
  have hc2 : Blk W0 (v1.heap.size + 1) 3 #[.int .i64 ((3 : Nat) : Int)] := by
    rw [hW0]
    have := Blk.new (v1.alloc (.cells #[.slice B N cB] 22)) 3 #[.int .i64 3]
    rwa [World.size_alloc] at this
  have hlt0 : w.heap.size + 1 ≤ v1.heap.size := by
    have := hv.2.2.size
    rwa [World.size_alloc] at this
  have hst : GrH w B bs.length cB s bs W0.heap.size [] W0 :=
    ⟨(HA.out.1.kept hv.2.2 id).kept hf0 id, hv.1.kept hf0 (fun _ _ => id), (HA.out.2.trans hv.2.2 fun _ _ e => e).trans hf0 fun _ _ e => e, Nat.le_refl _⟩
  have hvb : ∀ g, (Value.slice B bs.length cB).ownBlock = some g → w.heap.size ≤ g ∧ g < v1.heap.size := fun g e => by
    have := hv.2.1 g e
    rw [World.size_alloc] at this
    exact ⟨by omega, hv.1.lt e⟩
  have hB : 0 < N → ∃ b o, B = some ⟨b, o, none⟩ := fun h0 => by
    obtain ⟨g, cap, e, _⟩ := hv.1.form (by omega)
    injection e with e1 e2 e3
    exact ⟨g, 0, e1⟩
  rw [← hW0]
  have H0 := Lib.hid (And.intro hst (And.intro hc1 (And.intro hc2 (And.intro hB (And.intro hvb hlt0)))))
  clear hst hc1 hc2 hB hf0 hv hv1 hs1 hW0 hlt0 hvb
  refine wpIn_rangeFunc_ownG rfl (by omega) (gf := 27) (lb := #[.pointer (some ⟨v1.heap.size, 0, none⟩), .pointer (some ⟨v1.heap.size + 1, 0, none⟩)]) rfl trivial (enters_of Try.func27 (by kernel_rfl) rfl)
    (chunkB_stops 5 (by omega) v1.heap.size B N cB 3 R H0.out.2.2.2.1 (by omega) HR.out.2.2.symm (by omega) (by omega) W0 H0.out.2.1 H0.out.2.2.1) boxes_t (boxes_b (by omega)) (Below.refl _ _) (fun _ => rfl)
    (fun pre W => GrH w B bs.length cB s bs W0.heap.size (pre.map Fin.val) W)
    (fun _ _ _ => False)
    (fun s X Y row hs hg hr => hs.nc (kept_of_grown hg) fun k e => ⟨(hr k e).2, by have := (hr k e).1; have := H0.out.2.2.2.2.2; omega⟩)
    (fun _ _ _ _ _ hs _ _ => hs)
    H0.out.1
    (fun x => { tmps := #[.slice A bs.length c, .int .i64 s, undef, .pointer (some ⟨w.heap.size, 0, none⟩), .slice none 0 0, .slice B bs.length cB, .int .i64 N, rowOf B 3 x.val, undef, .slice A bs.length c, .slice B bs.length cB, .slice A bs.length c, .int .i64 bs.length, .int .i64 R, .int .i64 N, .slice B bs.length cB, .int .i64 N, .slice B N cB, .func (.func 27) #[] #[.pointer (some ⟨v1.heap.size, 0, none⟩), .pointer (some ⟨v1.heap.size + 1, 0, none⟩)], rowOf B 3 x.val, undef, undef, undef, undef, undef, undef, undef, undef, undef, undef, undef, undef, undef, undef, undef, undef, undef, undef, undef, undef, undef, undef, undef, undef, undef], defers := [] }) ?assign ?body ?done ?stop
  case assign =>
    intro l x W K hK
    gi_wp2
    exact hK
  case body =>
    rintro L pre x W h hlen
    have hx3 : x.val * 3 + 3 ≤ bs.length := by
      have := x.isLt
      have := HR.out.2.1
      omega
    have hsn : Hid (tpxs s bs ((pre ++ [x]).map Fin.val) = tpx s (tpxs s bs (pre.map Fin.val)) x.val) := Lib.hid (by rw [List.map_append, List.map_singleton, tpxs_snoc])
    have hl8 := tpxs_byte s (pre.map Fin.val) bs HR.out.1
    have hll := tpxs_length s (pre.map Fin.val) bs
    have hown := h.own
    generalize tpxs s bs (pre.map Fin.val) = l at *
    obtain ⟨g, cap, eB, hgl⟩ := hown.form (by omega)
    injection eB with eB e2 e3
    subst eB
    clear e2 e3
    obtain ⟨q, hq⟩ : ∃ q, q = x.val * 3 := ⟨_, rfl⟩
    unfold rowOf
    unfold tpx at hsn
    simp only [Option.map_some, Nat.zero_add]
    rw [← hq] at hsn hx3 ⊢
    clear hq
    have k0 := hown.cellN hll (j := q) (by omega)
    have k1 := hown.cellN hll (j := q + 1) (by omega)
    have k2 := hown.cellN hll (j := q + 2) (by omega)
    have f0 := hown.frozenN hll q
    have f2 := hown.frozenN hll (q + 2)
    have b0 := (h.b0.cell 0).trans (show _ = some (Value.int .i64 s) from rfl)
    obtain ⟨r1, r2⟩ := hl8.at_ q
    obtain ⟨g1, g2⟩ := hl8.at_ (q + 1)
    obtain ⟨u1, u2⟩ := hl8.at_ (q + 2)
    obtain ⟨hgW, hgv⟩ := H0.out.2.2.2.2.1 g rfl
    have HH := Lib.hid (And.intro h (And.intro hown hll))
    clear h hown hll hl8
    generalize l.getD q 0 = a at *
    generalize l.getD (q + 1) 0 = y at *
    generalize l.getD (q + 2) 0 = z at *
    have hp : -255 ≤ s * y ∧ s * y ≤ 255 := by
      obtain ⟨s1, s2⟩ := hs
      have e : s = -1 ∨ s = 0 ∨ s = 1 := by omega
      rcases e with rfl | rfl | rfl <;> omega
    obtain ⟨G, hG⟩ : ∃ G, G = s * y := ⟨_, rfl⟩
    rw [← hG] at hsn hp
    replace hG := hG.symm
    have p0 : IntKind.i64.wrap y = y := IntWalk.i64_in _ (by omega)
    have p1 : IntKind.i64.wrap G = G := IntWalk.i64_in _ (by omega)
    have p2 : IntKind.i64.wrap (a + G) = a + G := IntWalk.i64_in _ (by omega)
    have p3 : IntKind.i64.wrap (z + G) = z + G := IntWalk.i64_in _ (by omega)
    gi_wp2
    refine wpIn_region_tail 6 (by kernel_rfl) (by kernel_rfl) (NoDefer.of (by kernel_rfl)) ?_
    simp only [List.take_succ_cons, List.take_zero, List.drop_succ_cons, List.drop_zero]
    iterate 6 still_step
    refine wpStill_nil ?_
    go_wp2_with fail
    refine Calm.of ?_
    gi_wp2_with fail
    have hk : Kept (fun k => k = g) W ((W.setCell ⟨g, q, none⟩ (.int .u8 ((a + G) % 256))).setCell ⟨g, q + 2, none⟩ (.int .u8 ((z + G) % 256))).drew :=
      (((Kept.refl (fun k => k = g) W).setCell (p := ⟨g, q, none⟩) (fun _ => rfl) _).setCell (p := ⟨g, q + 2, none⟩) (fun _ => rfl) _).drew
    have ho := ((HH.out.2.1.storeN HH.out.2.2 q ((a + G) % 256)).storeN (by rw [List.length_set]; exact HH.out.2.2) (q + 2) ((z + G) % 256)).drew
    rw [← hsn.out] at ho
    have hbig := HH.out.1.big
    have hlt := H0.out.2.2.2.2.2
    have hgl2 := HH.out.2.1.cells (g := g) rfl
    refine ⟨KeepsFrom.of _ hk fun k e => (by subst e; exact hgl2), ⟨hk.block _ (by omega) (by omega), hk.block _ (by omega) (by omega)⟩, ?_⟩
    exact ⟨HH.out.1.b0.kept hk (fun e => by subst e; exact HH.out.2.1.ne_blk HH.out.1.b0 (by decide) rfl), ho, HH.out.1.fr.trans hk fun i hi e => by omega, Nat.le_trans hbig hk.size⟩
  case done =>
    rintro D ys W hD hys h hK
    have hown := h.own
    rw [hys, tpxs_range s bs R (by have := HR.out.2.1; omega), HR.out.2.1, trnTo_all] at hown
    have hfr := h.fr
    clear h
    gi_wp2
    refine ⟨by simp, .inl ⟨_, _, rfl, run_takeDeferred hK, ?_⟩⟩
    have hg := kept_of_grown (grownBy_putObj' W D (.deferred none))
    exact ⟨.slice B bs.length cB, results_tmp (t := 4) rfl _ _ _, _, rfl, hown.kept hg (fun g e e2 => by cases e2; exact hown.cells e ⟨_, hK, rfl⟩), fun g e => (H0.out.2.2.2.2.1 g e).1, hfr.trans hg fun i hi e => by cases e; have := H0.out.2.2.2.2.2; omega⟩
  case stop =>
    rintro D c pre W _ _ h _
    exact h.elim

set_option maxHeartbeats 800000 in
theorem cTurnC_any (A : Option Addr) (n c : Nat) (bs : List Int) (w : World) (hr : Row w .u8 A n bs) (h8 : B8 bs) (hn : n ≤ 1048576) :
    Calls Try.prog 10 #[.slice A n c] w fun e w' => ∃ u, e = .returned u ∧ NewRow w w' 5 .u8 u (trn (-1) bs) := by
  have HC := Lib.hid (cGreen_any A n c bs (-1) w hr h8 hn (by omega))
  clear hr h8
  go_enter Try.func10, Try.ntmps10
  go_wp2_with fail
  refine HC.out.mono ?_
  rintro e w1 ⟨u, rfl, hu⟩
  have H1 := Lib.hid hu
  clear hu HC
  go_wp2_with fail
  go_ret
  exact ⟨_, rfl, H1.out⟩

set_option maxHeartbeats 800000 in
theorem cBackC_any (A : Option Addr) (n c : Nat) (bs : List Int) (w : World) (hr : Row w .u8 A n bs) (h8 : B8 bs) (hn : n ≤ 1048576) :
    Calls Try.prog 12 #[.slice A n c] w fun e w' => ∃ u, e = .returned u ∧ NewRow w w' 5 .u8 u (trn 1 bs) := by
  have HC := Lib.hid (cGreen_any A n c bs 1 w hr h8 hn (by omega))
  clear hr h8
  go_enter Try.func12, Try.ntmps12
  go_wp2_with fail
  refine HC.out.mono ?_
  rintro e w1 ⟨u, rfl, hu⟩
  have H1 := Lib.hid hu
  clear hu HC
  go_wp2_with fail
  go_ret
  exact ⟨_, rfl, H1.out⟩

theorem colourOK : ColourOK :=
  ⟨fun A n c bs w hr h8 hn _ => cTurnC_any A n c bs w hr h8 hn, fun A n c bs w hr h8 hn _ => cBackC_any A n c bs w hr h8 hn,
    fun A n c bs k w hr _ hn hc => cApart_any A n c bs k w hr hn hc, fun A n c bs k w hr _ hn hc => cTogether_any A n c bs k w hr hn hc⟩

end Go.Proofs.Ytcogdehpodfkpaa
