/- Texts of this proof, one behind the other: ModAw, StrAw, CodQ. -/
import Derived.Test.YtpknbfkknnaajaaDoorPart17
import Derived.Test.YtpknbfkknnaajaaDoorPart21
import Derived.LaidMore
import Derived.Stop.Joined
import Derived.Laws.BitsLemmas
import Derived.Lib.SlBytesConst
import Derived.Test.YtpknbfkknnaajaaDoorPart10

/- What the listed variable gives (Kin), a start that meets the condition, and the contract of valiselaw08.awake. -/
namespace Go.Proofs.YtpknbfkknnaajaaDoor
set_option maxRecDepth 100000
open Go.ChangeShapes Go.WideShapes Go.ChangeAt Go.RowKit

attribute [local go_sem ↓] Go.wp_at_zero Go.wp_at_succ

def laidK : List (String × DataW Unit) := [("valise/model.kinds", Rows.laid_valise_model_kinds)]
theorem gKinds : Tryd.prog.globalNamed "valise/model.kinds" = some 0 := by kernel_rfl
theorem tKinds : (Tryd.prog.globals[0]?).map (·.type) = some 126 := by kernel_rfl
theorem cInt : Tryd.prog.cellsOf 3 = 1 := by kernel_rfl
theorem cKind : Tryd.prog.cellsOf 125 = 2 := by kernel_rfl
theorem cKinds : Tryd.prog.cellsOf 126 = 6 := by kernel_rfl

/-- The door's own heap meets the condition. -/
theorem door_met (os : Os) (args : Array Value) : laidMetH Tryd.prog laidK ((World.doorLaid Tryd.prog 17 os).forCall (fun _ _ => 0) ⟨#[], args, []⟩).memory :=
  laidMetH_of_parts3 (fuel := 8) (laidMet_of_run' 8 (by kernel_rfl) (by kernel_rfl)) (by kernel_rfl) (by kernel_rfl)

theorem kind_of {H : Type} {enc : TypeId × Value → H} {W : World} {base : Nat} {sp : Nat → Bool} {held : Bool} {m : Nat} {a b : Value} {x : DataW H × List MemPlace} (h : DataW.trod enc Tryd.prog W base sp held m 125 [a, b] = some x) :
    ∃ i j, a = .int .i64 i ∧ b = .int .i64 j ∧ x.1 = .agg [.lit (.int .i64 i), .lit (.int .i64 j)] := by
  obtain ⟨ys, n, rfl, rfl, _, hl, hg⟩ := DataW.trod_struct Tryd.underlying125 h
  have h0 : DataW.trod enc Tryd.prog W base sp held n 3 (([a, b].drop 0).take (Tryd.prog.cellsOf 3)) = ys[0]? := hg 0 _ rfl
  have h1 : DataW.trod enc Tryd.prog W base sp held n 3 (([a, b].drop 1).take (Tryd.prog.cellsOf 3)) = ys[1]? := hg 1 _ rfl
  match ys, hl, h0, h1 with
  | [y0, y1], _, h0, h1 =>
    obtain ⟨i, e1, rfl, _⟩ := DataW.trod_int Tryd.underlying3 (show DataW.trod _ Tryd.prog W base sp held n 3 _ = some y0 from h0)
    obtain ⟨j, e2, rfl, _⟩ := DataW.trod_int Tryd.underlying3 (show DataW.trod _ Tryd.prog W base sp held n 3 _ = some y1 from h1)
    rw [cInt] at e1 e2
    simp at e1 e2
    exact ⟨i, j, e1, e2, rfl⟩

/-- What the condition gives. -/
theorem kin_of_laid {W : World} (h : laidMetH Tryd.prog laidK W) : Kin W := by
  rw [MakeChecks.laidMetH_plain _ _ _ (by kernel_rfl)] at h
  obtain ⟨ps, ⟨g0, t0, cs0, f0, p0, q0, hg0, ht0, hv0, hd0, _, _⟩, _, _⟩ := h
  obtain rfl := Option.some.inj (gKinds.symm.trans hg0)
  obtain rfl := Option.some.inj (tKinds.symm.trans ht0)
  obtain ⟨xs, m, rfl, hx, hlen, hn, hel⟩ := DataW.trod_array Tryd.underlying126 hd0
  rw [cKinds] at hlen
  have h0 := hel 0 (by decide)
  have h1 := hel 1 (by decide)
  have h2 := hel 2 (by decide)
  rw [cKind] at h0 h1 h2
  obtain ⟨l⟩ := cs0
  match xs, hn, l, hlen, hx, h0, h1, h2 with
  | [x0, x1, x2], _, [a, b, c, d, e, f], _, hx, h0, h1, h2 =>
    obtain ⟨i0, j0, rfl, rfl, e0⟩ := kind_of (show DataW.trod _ Tryd.prog W 0 _ false m 125 [a, b] = some x0 from h0)
    obtain ⟨i1, j1, rfl, rfl, e1⟩ := kind_of (show DataW.trod _ Tryd.prog W 0 _ false m 125 [c, d] = some x1 from h1)
    obtain ⟨i2, j2, rfl, rfl, e2⟩ := kind_of (show DataW.trod _ Tryd.prog W 0 _ false m 125 [e, f] = some x2 from h2)
    simp only [List.map_cons, List.map_nil, e0, e1, e2, Rows.laid_valise_model_kinds, Prod.mk.injEq, DataW.agg.injEq, List.cons.injEq, DataW.lit.injEq, Lit.int.injEq, true_and, and_true] at hx
    obtain ⟨⟨⟨rfl, rfl⟩, ⟨rfl, rfl⟩, ⟨rfl, rfl⟩⟩, _⟩ := hx
    simp only [World.var?, gKinds, Option.bind_some] at hv0
    split at hv0
    · rename_i cs t fr hh
      injection hv0 with hv0
      subst hv0
      exact ⟨t, fr, hh⟩
    · cases hv0

/-- What is left of a model in a world further on. -/
theorem Kept.new {lo hi : Nat} {w w1 w2 : World} (hf : Fresh w w1) (hk : Kept (fun k => lo ≤ k ∧ k < hi) w1 w2) (h : w.heap.size ≤ lo) : Fresh w w2 := hf.trans hk (fun i hi' e => by omega)

theorem Mdl.wide {F G : Nat → Prop} {w : World} {g lv : Nat} {m : Mo} (h : Mdl F w g lv m) (h1 : ∀ k, F k → G k) (h2 : ∀ k, G k → 0 < k) : Mdl G w g lv m := by
  obtain ⟨d, s, I, t, q, u, hb, hp, hu, hf, hl, hki, hd, hg, hF⟩ := h
  exact ⟨d, s, I, t, q, u, hb, hp, hu, hf, hl, hki, fun k e => h1 k (hd k e), h1 g hg, h2⟩

theorem mo0_chance : mo0.chance 0 = 2048 := by decide +kernel


end Go.Proofs.YtpknbfkknnaajaaDoor

/- awake, and Pack and Unpack whatever is asked of them. -/
namespace Go.Proofs.YtpknbfkknnaajaaDoor
set_option maxRecDepth 100000
open Go.RowKit

attribute [local go_sem ↓] Go.wp_at_zero Go.wp_at_succ

/-- The levels and lengths that may not be. -/
def bad (lv n : Int) : Prop := lv < 0 ∨ 3 ≤ lv ∨ 1048576 < n
instance (lv n : Int) : Decidable (bad lv n) := by unfold bad; infer_instance
def badE (lv : Int) : Int := if lv < 0 ∨ 3 ≤ lv then 1 else 5
theorem lv_nat {lv n : Int} (h : ¬ bad lv n) : ((lv.toNat : Nat) : Int) = lv ∧ lv.toNat ≤ 2 ∧ n ≤ 1048576 := by
  unfold bad at h; omega

/-- What Pack answers. -/
def PkP (w w' : World) (e : Ending) (lv : Int) (xs : List Int) : Prop :=
  ∃ u, e = .returned (.tuple #[u, .int .i64 (if bad lv xs.length then badE lv else 0)]) ∧ NewRow w w' 5 .u8 u (if bad lv xs.length then [] else packB lv.toNat (bbs xs))
theorem NewRow.none (w : World) : NewRow w w 5 .u8 (.slice none 0 0) [] := ⟨Own.nil _ _ _, fun k e => (by cases e), Kept.refl _ _⟩
theorem cPackP (A : Option Addr) (n c : Nat) (xs : List Int) (lv : Int) (w : World) (hk : Kin w) (hr : Row w .u8 A n xs) (hb : ∀ x ∈ xs, 0 ≤ x ∧ x < 256) :
    Calls Tryd.prog 10 #[.slice A n c, .int .i64 lv] w fun e w' => PkP w w' e lv xs := by
  have hlen := hr.len
  by_cases h : bad lv xs.length
  · have h' := h
    unfold bad at h'
    refine (cPack_not A n c lv w (by omega)).mono ?_
    rintro e w' ⟨rfl, rfl⟩
    unfold PkP
    rw [if_pos h, if_pos h]
    exact ⟨_, rfl, NewRow.none _⟩
  · obtain ⟨h1, h2, h3⟩ := lv_nat h
    have := cPack_any A n c xs lv.toNat w hk hr (byteC hb) (by omega) h2
    rw [h1] at this
    unfold PkP
    rw [if_neg h, if_neg h]
    exact this

/-- What Unpack answers. -/
def UnA (w w' : World) (e : Ending) (lv m : Int) (xs : List Int) : Prop :=
  ∃ u, e = .returned (.tuple #[u, .int .i64 (if lv < 0 ∨ 3 ≤ lv ∨ m < 0 then 1 else if 1048576 < m then 5 else if okB lv.toNat xs m.toNat then 0 else 4)]) ∧
    NewRow w w' 5 .u8 u (if (lv < 0 ∨ 3 ≤ lv ∨ m < 0) ∨ 1048576 < m ∨ ¬ okB lv.toNat xs m.toNat then [] else outB lv.toNat xs m.toNat)
theorem UnA.of_not {w : World} {lv m : Int} {xs : List Int} (h : lv < 0 ∨ 3 ≤ lv ∨ m < 0 ∨ 1048576 < m) : UnA w w (.returned (.tuple #[.slice none 0 0, .int .i64 (if lv < 0 ∨ 3 ≤ lv ∨ m < 0 then 1 else 5)])) lv m xs := by
  unfold UnA
  by_cases h1 : lv < 0 ∨ 3 ≤ lv ∨ m < 0
  · rw [if_pos h1, if_pos h1, if_pos (.inl h1)]
    exact ⟨_, rfl, NewRow.none _⟩
  · rw [if_neg h1, if_neg h1, if_pos (by omega), if_pos (.inr (.inl (by omega)))]
    exact ⟨_, rfl, NewRow.none _⟩
theorem UnA.of {w w' : World} {e : Ending} {lv m : Int} {xs : List Int} {L M : Nat} (h1 : (L : Int) = lv) (h2 : (M : Int) = m) (hl : L ≤ 2) (hm : M ≤ 1048576) (h : ∃ u, e = .returned (.tuple #[u, .int .i64 (if okB L xs M then 0 else 4)]) ∧ NewRow w w' 5 .u8 u (if okB L xs M then outB L xs M else [])) : UnA w w' e lv m xs := by
  subst h1
  subst h2
  unfold UnA
  rw [if_neg (by omega), if_neg (by omega), Int.toNat_natCast, Int.toNat_natCast]
  obtain ⟨u, e1, h2⟩ := h
  refine ⟨u, e1, ?_⟩
  by_cases hok : okB L xs M
  · rw [if_pos hok] at h2
    rw [if_neg (fun h3 => by rcases h3 with h3 | h3 | h3 <;> first | omega | exact h3 hok)]
    exact h2
  · rw [if_neg hok] at h2
    rw [if_pos (.inr (.inr hok))]
    exact h2
theorem cUnpackA (b o n c : Nat) (xs : List Int) (m lv : Int) (w : World) (hk : Kin w) (hr : Row w .u8 (some ⟨b, o, none⟩) n xs) (hby : ∀ x ∈ xs, 0 ≤ x ∧ x < 256) (hn : n ≤ 1000000000) :
    Calls Tryd.prog 14 #[.slice (some ⟨b, o, none⟩) n c, .int .i64 m, .int .i64 lv] w fun e w' => UnA w w' e lv m xs := by
  by_cases h : lv < 0 ∨ 3 ≤ lv ∨ m < 0 ∨ 1048576 < m
  · refine (cUnpack_not _ n c m lv w h).mono ?_
    rintro e w' ⟨rfl, rfl⟩
    exact UnA.of_not h
  · have := cUnpack_any b o n c xs m.toNat lv.toNat w hk hr hby hn (by omega) (by omega)
    rw [show ((m.toNat : Nat) : Int) = m by omega, show ((lv.toNat : Nat) : Int) = lv by omega] at this
    exact this.mono fun e w' h2 => UnA.of (by omega) (by omega) (by omega) (by omega) h2

theorem packA : (packB 0 (bbs [97])).length = 5 := by decide +kernel

set_option maxHeartbeats 800000 in
theorem awake_any (w : World) (hk : Kin w) : Calls Tryd.prog 8 #[] w fun e w' => e = .returned (.bool true) ∧ Fresh w w' := by
  have hfa : Fresh w (w.alloc (.cells #[.int .u8 97] 5 (1, 2))) := (Kept.refl _ _).alloc _
  have hr : Row (w.alloc (.cells #[.int .u8 97] 5 (1, 2))) .u8 (some ⟨w.heap.size, 0, none⟩) 1 [97] :=
    ⟨rfl, fun j hj => ⟨w.heap.size, 0, rfl, by simp, by
      obtain rfl : j = 0 := by omega
      exact cell_of_row _ _ 0 #[.int .u8 97] 5 (1, 2) (heap_alloc_new w _)⟩⟩
  have hcv := Lib.run_convert_bytes_const (P := Tryd.prog) w 22 5 #[.int .u8 97] 1 1 Tryd.underlying22 Tryd.underlying5
  have HP := Lib.hid (fun c => cPack_any (some ⟨w.heap.size, 0, none⟩) 1 c [97] 0 _ (hk.kept hfa id) hr (byteC (by simp)) (by omega) (by omega))
  have HF := Lib.hid hfa
  clear hfa hr hk
  go_enter Tryd.func8, Tryd.ntmps8
  go_wp2_with fail
  refine (HP.out 1).mono ?_
  rintro e w1 ⟨u, rfl, hu, _, hf⟩
  obtain ⟨Au, cu, rfl, _, _⟩ := hu.row
  rw [packA]
  have HF1 := Lib.hid (HF.out.trans hf (fun _ _ h => h))
  clear hu hf HF HP hcv
  go_wp2_with fail
  go_ret
  exact ⟨rfl, HF1.out⟩

theorem range_bytes {xs : List Int} (h : ∀ x ∈ xs, (Lit.int .u8 x).wf = true) : ∀ x ∈ xs, 0 ≤ x ∧ x < 256 := fun x hx => by
  have := bounds_u8 (h x hx)
  omega
theorem PkP.bytes {lv : Int} {xs : List Int} : ∀ x ∈ (if bad lv xs.length then [] else packB lv.toNat (bbs xs)), 0 ≤ x ∧ x < 256 := by
  split
  · intro x hx; cases hx
  · exact packB_bytes _ _
theorem UnA.bytes {P : Prop} [Decidable P] {lv m : Int} {xs : List Int} : ∀ x ∈ (if P then [] else outB lv.toNat xs m.toNat), 0 ≤ x ∧ x < 256 := by
  split
  · intro x hx; cases hx
  · exact outB_byte _ _ _

/-- 'uint(n) % k'. -/
theorem u64_mod (n : Int) (k : Int) (hk : 0 < k) : ∃ r : Nat, (r : Int) < k ∧ (IntKind.u64.wrap n).tmod k = (r : Int) := by
  have h0 : 0 ≤ IntKind.u64.wrap n := by rw [IntKind.wrap_u64]; omega
  generalize IntKind.u64.wrap n = y at *
  rw [Int.tmod_eq_emod_of_nonneg h0]
  have h1 := Int.emod_nonneg y (show k ≠ 0 by omega)
  have h2 := Int.emod_lt_of_pos y hk
  exact ⟨(y % k).toNat, by omega, by omega⟩

end Go.Proofs.YtpknbfkknnaajaaDoor

/- The contracts of the document's own encoder. -/
namespace Go.Proofs.YtpknbfkknnaajaaDoor
set_option maxRecDepth 100000
open Go.RowKit

attribute [local go_sem ↓] Go.wp_at_zero Go.wp_at_succ

/-- A range by value. -/
abbrev rg (l h : Nat) : Value := .agg #[.int .u32 l, .int .u32 h]

set_option maxHeartbeats 400000 in
theorem qfull_any (w : World) : Calls Tryd.prog 38 #[] w fun e w' => e = .returned (rg 0 4294967295) ∧ Fresh w w' := by
  go_enter Tryd.func38, Tryd.ntmps38
  go_wp2
  exact bodyPost_ret (v := rg 0 4294967295) (by simp [results, Tryd.results38, go_sem]) rfl ⟨rfl, (Kept.refl _ _).alloc _⟩

theorem qmid_int {l h k : Nat} (o : Open l h) (hk : k ≤ 4095) :
    ((l : Int) + IntKind.u64.wrap (IntKind.u64.wrap (((h : Int) - l) / 4096 * k) + IntKind.u64.wrap ((IntKind.u64.wrap (((h : Int) - l) % 4096 * k)).tdiv 4096)) % 4294967296) % 4294967296 = ((midN l h k : Nat) : Int) := by
  obtain ⟨d, rfl⟩ : ∃ d, h = l + d := ⟨h - l, by have := o.lt; omega⟩
  have h1 := mid_parts d k hk (by have := o.hi; omega)
  have h2 := o.hi
  have e1 : (((l + d : Nat) : Int) - l) = (d : Int) := by omega
  have e2 : (d : Int) / 4096 * k = ((d / 4096 * k : Nat) : Int) := by simp
  have e3 : (d : Int) % 4096 * k = ((d % 4096 * k : Nat) : Int) := by simp
  have e4 : IntKind.u64.wrap ((d % 4096 * k : Nat) : Int) = ((d % 4096 * k : Nat) : Int) := by rw [IntKind.wrap_u64]; omega
  have e5 : ((d % 4096 * k : Nat) : Int).tdiv 4096 = ((d % 4096 * k / 4096 : Nat) : Int) := rfl
  rw [e1, e2, e3, e4, e5, IntKind.wrap_u64, IntKind.wrap_u64, IntKind.wrap_u64]
  unfold midN
  rw [show l + d - l = d from by omega]
  omega

set_option maxHeartbeats 800000 in
theorem qMid_any (l h : Nat) (c : Int) (w : World) (o : Open l h) : Calls Tryd.prog 60 #[rg l h, .int .i64 c] w fun e w' => e = .returned (.int .u32 (midN l h (cc c))) ∧ Fresh w w' := by
  have hlt := o.lt
  have hhi := o.hi
  go_enter Tryd.func60, Tryd.ntmps60
  go_wp2
  go_ret
  exact ⟨ret_int (by rw [cc_eq3]; exact qmid_int o (cc_bd c).2), (Kept.refl _ _).alloc _⟩

set_option maxHeartbeats 800000 in
theorem qout_any (l h : Nat) (w : World) : Calls Tryd.prog 43 #[rg l h] w fun e w' => e = .returned (.bool (settledB l h)) ∧ Fresh w w' := by
  go_enter Tryd.func43, Tryd.ntmps43
  go_wp2
  go_ret
  exact ⟨ret_bool (settled_int l h), (Kept.refl _ _).alloc _⟩

theorem shh_int (h : Nat) : bits .or .u32 ((h : Int) * 256 % 4294967296) 255 = ((shh h : Nat) : Int) := by
  have e1 : ((h : Int) * 256 % 4294967296) = ((h * 256 % 4294967296 : Nat) : Int) := by omega
  rw [e1, show (255 : Int) = ((255 : Nat) : Int) from rfl, u32_or_nat _ _ (by omega) (by omega), nat_join 8 (h * 256 % 4294967296) 255 (by omega) (by omega)]
  unfold shh
  omega

set_option maxHeartbeats 800000 in
theorem qnext_any (l h : Nat) (w : World) : Calls Tryd.prog 44 #[rg l h] w fun e w' => e = .returned (rg (shl l) (shh h)) ∧ Fresh w w' := by
  have e1 := shh_int h
  go_enter Tryd.func44, Tryd.ntmps44
  go_wp2
  exact bodyPost_ret (v := rg (shl l) (shh h)) (by simp [results, Tryd.results44, go_sem, shl]) rfl ⟨rfl, ((Kept.refl _ _).alloc _).alloc _⟩

set_option maxHeartbeats 800000 in
theorem qcut_any (l h : Nat) (b c : Int) (w : World) (o : Open l h) : Calls Tryd.prog 42 #[rg l h, .int .i64 b, .int .i64 c] w fun e w' => e = .returned (rg (nar (b != 0) l h (cc c)).1 (nar (b != 0) l h (cc c)).2) ∧ Fresh w w' := by
  obtain ⟨one, hone⟩ : ∃ one, (b != 0) = one := ⟨_, rfl⟩
  rw [hone]
  obtain ⟨k, hk⟩ : ∃ k, cc c = k := ⟨_, rfl⟩
  have hk2 := (cc_bd c).2
  rw [hk] at hk2
  have Hk := Lib.hid hk
  rw [hk]
  clear hk
  have hm := mid_le o.rng.1 o.hi hk2
  have hlt := o.lt
  have hhi := o.hi
  have hm1 : midN l h k ≤ 4294967294 := by omega
  clear hm hlt hhi
  go_enter Tryd.func42, Tryd.ntmps42
  go_wp2_with fail
  refine (qMid_any l h c _ o).mono ?_
  rw [Hk.out]
  rintro e w3 ⟨rfl, hf⟩
  have hf3 : Fresh w w3 := (((Kept.refl _ _).alloc _).alloc _).trans hf fun _ _ h => h
  have b0 : Blk w3 w.heap.size 68 #[.int .u32 l, .int .u32 h] := ((Blk.new w _ _).alloc _).kept hf id
  have b1 : Blk w3 (w.heap.size + 1) 68 #[.int .u32 0, .int .u32 0] := by
    have := (Blk.new (w.alloc (.cells #[.int .u32 l, .int .u32 h] 68)) 68 #[.int .u32 0, .int .u32 0]).kept hf id
    simpa using this
  have c0 := b0.cell 0
  have c1 := b0.cell 1
  have d0 := b1.cell 0
  have d1 := b1.cell 1
  have f0 := b1.frozen 0
  have f1 := b1.frozen 1
  simp only [List.getElem?_toArray, List.getElem?_cons_succ, List.getElem?_cons_zero] at c0 c1 d0 d1
  have HF := Lib.hid hf3
  clear hf hf3 b0 b1 Hk
  have hf4 : ∀ u x : Value, Fresh w ((w3.setCell ⟨w.heap.size + 1, 0, none⟩ u).setCell ⟨w.heap.size + 1, 1, none⟩ x) := fun u x =>
    (HF.out.setCell (p := ⟨w.heap.size + 1, 0, none⟩) (fun h => by have h' : w.heap.size + 1 < w.heap.size := h; omega) u).setCell (p := ⟨w.heap.size + 1, 1, none⟩) (fun h => by have h' : w.heap.size + 1 < w.heap.size := h; omega) x
  have HF4 := Lib.hid hf4
  clear hf4
  cases one
  · go_wp2_with fail
    exact bodyPost_ret (v := rg (midN l h k + 1) h) (by simp [results, Tryd.results42, go_sem, d0, d1]) rfl ⟨rfl, HF4.out _ _⟩
  · go_wp2_with fail
    exact bodyPost_ret (v := rg l (midN l h k)) (by simp [results, Tryd.results42, go_sem, d0, d1]) rfl ⟨rfl, HF4.out _ _⟩

/-- The document's encoder. -/
abbrev EncR (w : World) (g l h : Nat) (v : Value) (bs : List Int) : Prop := Enc w g 71 l (h : Int) v bs

set_option maxHeartbeats 800000 in
theorem qNewEnc_any (w : World) : Calls Tryd.prog 21 #[] w fun e w' => ∃ g, e = .returned (.pointer (some ⟨g, 0, none⟩)) ∧ EncR w' g 0 4294967295 (.slice none 0 0) [] ∧ w.heap.size ≤ g ∧ Fresh w w' := by
  go_enter Tryd.func21, Tryd.ntmps21
  go_wp2_with fail
  refine (qfull_any _).mono ?_
  rintro e w1 ⟨rfl, hf⟩
  go_wp2_with fail
  go_ret
  exact ⟨w1.heap.size, rfl, ⟨Blk.new _ _ _, Own.nil _ _ _, by simp⟩, hf.size, hf.alloc _⟩

theorem Enc.fresh {w w' : World} {g : Nat} {t : TypeId} {l : Nat} {y : Int} {v : Value} {bs : List Int} (h : Enc w g t l y v bs) (hf : Fresh w w') : Enc w' g t l y v bs := h.kept hf id (fun _ _ => id)
theorem Kept.fresh {S : Nat → Prop} {a b c : World} (h : Kept S a b) (hf : Fresh b c) : Kept S a c := h.trans hf fun _ _ h => h.elim
theorem Fresh.kept {S : Nat → Prop} {a b : World} (h : Fresh a b) : Kept S a b := h.mono fun _ _ h => h.elim

set_option maxHeartbeats 1600000 in
/-- Encode: P4.1. -/
theorem qEncode_any (g l h : Nat) (v : Value) (bs : List Int) (bit c : Int) (w : World) (e : EncR w g l h v bs) (o : Open l h) (hlen : bs.length ≤ 1000000000) :
    Calls Tryd.prog 23 #[.pointer (some ⟨g, 0, none⟩), .int .i64 bit, .int .i64 c] w fun e w' => e = .returned (.tuple #[]) ∧
      EPost w w' g 71 v (enc1 (bit != 0) l h (cc c)).2.1 ((enc1 (bit != 0) l h (cc c)).2.2 : Int) (bs ++ (enc1 (bit != 0) l h (cc c)).1) := by
  obtain ⟨one, hone⟩ : ∃ one, (bit != 0) = one := ⟨_, rfl⟩
  rw [hone]
  obtain ⟨k, hk⟩ : ∃ k, cc c = k := ⟨_, rfl⟩
  have hk2 := (cc_bd c).2
  rw [hk] at hk2
  have Hk := Lib.hid (And.intro hone hk)
  rw [hk]
  clear hk hone
  obtain ⟨E, hE⟩ : ∃ E, enc1 one l h k = E := ⟨_, rfl⟩
  rw [hE]
  have HE := Lib.hid hE
  clear hE
  obtain ⟨i0, hi, hz0, hz1, hz2⟩ := info_parts Tryd.infoByteC
  have c0 : w.cell? ⟨g, 0, none⟩ = some (.int .u32 l) := by simpa using e.blk.cell 0
  have c1 : w.cell? ⟨g, 1, none⟩ = some (.int .u32 h) := by simpa using e.blk.cell 1
  go_enter Tryd.func23, Tryd.ntmps23
  go_wp2_with fail
  refine (qcut_any l h bit c _ o).mono ?_
  rw [Hk.out.1, Hk.out.2]
  rintro e1 w2 ⟨rfl, hf2⟩
  have he2 := e.fresh hf2
  have d0 : w2.cell? ⟨g, 0, none⟩ = some (.int .u32 l) := by simpa using he2.blk.cell 0
  have d1 : w2.cell? ⟨g, 1, none⟩ = some (.int .u32 h) := by simpa using he2.blk.cell 1
  have f0 := he2.blk.frozen 0
  have f1 := he2.blk.frozen 1
  have hr2 := nar_rng (one := one) o.rng o.lt hk2
  have hE' : norm 5 (nar one l h k).1 (nar one l h k).2 = E := HE.out
  generalize (nar one l h k).1 = l1 at *
  generalize (nar one l h k).2 = h1 at *
  have hp2 : EPost w ((w2.setCell ⟨g, 0, none⟩ (.int .u32 l1)).setCell ⟨g, 1, none⟩ (.int .u32 h1)) g 71 v l1 h1 bs :=
    ⟨v, (he2.set0 (by decide) l1).set1 (by decide) h1, fun _ hk => .inl hk, ((Fresh.kept hf2).setCell (p := ⟨g, 0, none⟩) (fun _ => .inl rfl) _).setCell (p := ⟨g, 1, none⟩) (fun _ => .inl rfl) _⟩
  have Hp := Lib.hid (And.intro hp2 (Going.start hr2))
  have HE' := Lib.hid hE'
  clear hE' HE hp2 he2 hf2 hr2 o e Hk hk2 c0 c1
  go_wp2_with fail
  go_loopw [20] (fun _ wr => ∃ j out l2 h2, Going l1 h1 j out l2 h2 ∧ EPost w wr g 71 v l2 (h2 : Int) (bs ++ out)) (fun _ wr => (4294967296 + numIn wr g 0 - numIn wr g 1).toNat)
  case atStart => exact ⟨0, [], l1, h1, Hp.out.2, by simpa using Hp.out.1⟩
  case round =>
    obtain ⟨j, out, l2, h2, hgo, v2, he2, hv2, hk2⟩ := hrel
    have Hgo := Lib.hid hgo
    have Hv := Lib.hid (And.intro hv2 hk2)
    have c0 : wr.cell? ⟨g, 0, none⟩ = some (.int .u32 l2) := by simpa using he2.blk.cell 0
    have c1 : wr.cell? ⟨g, 1, none⟩ = some (.int .u32 h2) := by simpa using he2.blk.cell 1
    clear hgo hv2 hk2
    go_wp2_with fail
    refine (qout_any l2 h2 _).mono ?_
    rintro e1 w1 ⟨rfl, hf1⟩
    have he1 := he2.fresh hf1
    have hm0 := he2.num0
    have hm1 := he2.num1
    have HM := Lib.hid (And.intro hm0 hm1)
    have HF1 := Lib.hid hf1
    clear he2 hf1 c0 c1 hm0 hm1
    cases hs : settledB l2 h2
    · have Hs := Lib.hid hs
      clear hs
      go_wp2_with fail
      go_end0
      have hfin := Hgo.out.done Hs.out
      rw [HE'.out] at hfin
      rw [hfin]
      exact ⟨rfl, v2, he1, Hv.out.1, Hv.out.2.fresh HF1.out⟩
    · have Hs := Lib.hid hs
      clear hs
      have e0 : w1.cell? ⟨g, 0, none⟩ = some (.int .u32 l2) := by simpa using he1.blk.cell 0
      have e1 : w1.cell? ⟨g, 1, none⟩ = some (.int .u32 h2) := by simpa using he1.blk.cell 1
      have e2 : w1.cell? ⟨g, 2, none⟩ = some v2 := by simpa using he1.blk.cell 2
      have e2a : ∀ o, (w1.alloc o).cell? ⟨g, 2, none⟩ = some v2 := fun o => by simpa using (he1.blk.alloc o).cell 2
      have hln : (bs ++ out).length + 1 ≤ 2000000000 := by have := Hgo.out.len; have := Hgo.out.le; simp; omega
      have hh2 : h2 ≤ 4294967295 := by have := Hgo.out.rng.2; omega
      have hne := he1.ne_ (by decide)
      have hw8 : IntKind.u8.wrap ((h2 : Int) / 16777216) = (h2 : Int) / 16777216 := by rw [IntKind.wrap_u8]; omega
      go_wp2_with fail
      go_region_law
        (first
          | (refine step_append_lies _ (by rfl) _ _ _ (by rfl) 0 5 i0 (.int .u8 0) 1 1 Tryd.underlying22 hi hz0 hz1 hz2 rfl (by decide) v2 (bs ++ out).length (ivs .u8 (bs ++ out)) (by rfl) ((World.ownsRow.alloc he1.own _).drew) ⟨w1.heap.size, 0, none⟩ 1 1 (ivs .u8 [(h2 : Int) / 16777216]) (by rfl) (by rfl) (cell_one_new _ _ _) (ivs_one _ _) (by decide) (by unfold maxLen; omega) (by omega) (by omega) (w1.heap.size + 1) (by simp) ?_
             intro q cap w4 hown4 hgrow hat hlt
             have hblk4 := ((he1.blk.alloc (.cells #[.int .u8 ((h2 : Int) / 16777216)] 5)).drew).grown hgrow (fun e => hne e.symm)
             have c4 : w4.cell? ⟨g, 2, none⟩ = some v2 := by simpa using hblk4.cell 2
             have f4 := hblk4.frozen 2))
      all_goals
        clear hw8
        have hrg := settled_shift Hgo.out.rng Hs.out
        have hrg0 := Hgo.out.rng
        have hgrow' : (w1.alloc (.cells #[.int .u8 ((h2 : Int) / 16777216)] 5)).grownBy w4 v2.ownBlock := ⟨hgrow.os, hgrow.tape, hgrow.output, hgrow.size, hgrow.block⟩
        have hp := Enc.app he1 (by decide) (Fresh.kept HF1.out) hown4 hgrow' hat (by omega) (n := bs.length + out.length + 1) (by simp)
        have hst := settled_true.1 Hs.out
        rw [List.append_assoc, show ((h2 : Int) / 16777216) = ((l2 / 16777216 : Nat) : Int) from by omega] at hp
        obtain ⟨v5, he5, hv5, hk5⟩ := EPost.trans Hv.out.1 Hv.out.2 hp
        generalize w4.setCell ⟨g, 2, none⟩ (.slice (some ⟨q, 0, none⟩) (bs.length + out.length + 1) cap) = w5 at *
        have HR := Lib.hid (And.intro hrg (And.intro hrg0 hst))
        have H5 := Lib.hid (And.intro hv5 hk5)
        clear hv5 hk5 hp hst hrg hrg0 hown4 hgrow hgrow' hat hblk4 c4 f4 e0 e1 e2 e2a he1 hne
        have x0 : w5.cell? ⟨g, 0, none⟩ = some (.int .u32 l2) := by simpa using he5.blk.cell 0
        have x1 : w5.cell? ⟨g, 1, none⟩ = some (.int .u32 h2) := by simpa using he5.blk.cell 1
        go_wp2_with fail
        refine (qnext_any l2 h2 _).mono ?_
        rintro ee w6 ⟨rfl, hf6⟩
        have he6 := he5.fresh hf6
        have y0 : w6.cell? ⟨g, 0, none⟩ = some (.int .u32 l2) := by simpa using he6.blk.cell 0
        have y1 : w6.cell? ⟨g, 1, none⟩ = some (.int .u32 h2) := by simpa using he6.blk.cell 1
        have z0 := he6.blk.frozen 0
        have z1 := he6.blk.frozen 1
        have hp7 : EPost w ((w6.setCell ⟨g, 0, none⟩ (.int .u32 (shl l2))).setCell ⟨g, 1, none⟩ (.int .u32 (shh h2))) g 71 v (shl l2) (shh h2) (bs ++ (out ++ [((l2 / 16777216 : Nat) : Int)])) :=
          ⟨v5, (he6.set0 (by decide) _).set1 (by decide) _, H5.out.1, ((H5.out.2.fresh hf6).setCell (p := ⟨g, 0, none⟩) (fun _ => .inl rfl) _).setCell (p := ⟨g, 1, none⟩) (fun _ => .inl rfl) _⟩
        have hm := hp7.snd
        have HM7 := Lib.hid hm
        obtain ⟨hj, hnx⟩ := Hgo.out.next Hs.out
        have H7 := Lib.hid (And.intro hnx hp7)
        clear hm hnx hp7 he6 hf6 he5 x0 x1
        go_wp2_with fail
        go_roundw
        case rel => exact ⟨j + 1, _, _, _, H7.out.1, H7.out.2⟩
        case measure =>
          rw [HM.out.1, HM.out.2, HM7.out.1, HM7.out.2]
          have := HR.out
          unfold Rng at this
          omega

end Go.Proofs.YtpknbfkknnaajaaDoor
