/- Texts of this proof, one behind the other: ModC. -/
import Derived.Test.YtpknbfkknnaajaaDoorPart4
import Derived.Test.YtpknbfkknnaajaaDoorPart11
import Derived.Test.YtpknbfkknnaajaaDoorPart13
import Derived.Test.YtpknbfkknnaajaaDoorPart14
import Derived.Laws.BitsAllLaws

/- The code's model in memory: its tables, mixer and stage, and what they hold (CM); places, take, asked. -/
namespace Go.Proofs.YtpknbfkknnaajaaDoor
set_option maxRecDepth 100000
open Go.RowKit

attribute [local go_sem ↓] Go.wp_at_zero Go.wp_at_succ

/-- The first n of a function, as a list. -/
def ft (n : Nat) (f : Nat → Nat) : List Nat := (List.range n).map f
theorem ft_len (n : Nat) (f : Nat → Nat) : (ft n f).length = n := by simp [ft]
theorem ft_get {n : Nat} {f : Nat → Nat} {k : Nat} (h : k < n) : (ft n f).getD k 0 = f k := by simp [ft, h]
theorem ft_set {n : Nat} {f : Nat → Nat} {k : Nat} (v : Nat) : (ft n f).set k v = ft n (upd f k v) := by
  apply List.ext_getElem
  · simp [ft]
  · intro i h1 h2
    simp only [ft, List.getElem_set, List.getElem_map, List.getElem_range, upd]
    by_cases h : k = i
    · rw [if_pos h, if_pos h.symm]
    · rw [if_neg h, if_neg (fun e => h e.symm)]
theorem ft_const (n x : Nat) : ft n (fun _ => x) = List.replicate n x := by
  apply List.ext_getElem <;> simp [ft]

/-- How many guesses the tables have, and how they learn. -/
def tn (k : Nat) : Nat := if k = 0 then 256 else 65536
def tr (k : Nat) : Nat := if k = 2 then 3 else 4
def kc : Array Value := #[.int .i64 256, .int .i64 4, .int .i64 65536, .int .i64 4, .int .i64 65536, .int .i64 3]
/-- The kinds lie where the program's text lays them. -/
def Kin (w : World) : Prop := ∃ t fr, w.heap[0]? = some (.cells kc t fr)
section
variable {w w' : World} {S : Nat → Prop}
theorem Kin.pos (h : Kin w) : 0 < w.heap.size := by
  obtain ⟨t, fr, h⟩ := h
  exact (Array.getElem?_eq_some_iff.1 h).1
theorem Kin.kept (h : Kin w) (hk : Kept S w w') (h0 : ¬ S 0) : Kin w' := by
  have hp := h.pos
  obtain ⟨t, fr, h⟩ := h
  exact ⟨t, fr, (hk.block _ hp h0).trans h⟩
theorem Kin.cell (h : Kin w) (i : Nat) : w.cell? ⟨0, i, none⟩ = kc[i]? := by
  obtain ⟨t, fr, h⟩ := h
  exact cell_of_row w _ i kc t fr h
theorem Kin.rate (h : Kin w) {k : Nat} (hk : k < 3) : w.cell? ⟨0, k * 2 + 1, none⟩ = some (.int .i64 (tr k : Nat)) := by
  rw [h.cell]
  rcases (by omega : k = 0 ∨ k = 1 ∨ k = 2) with rfl | rfl | rfl <;> rfl
theorem Kin.load (h : Kin w) : (Instr.loadAt 126 (.pointer (some ⟨0, 0, none⟩))).run Tryd.prog w = .ok (.agg kc) w := by
  obtain ⟨t, fr, h⟩ := h
  simp only [Instr.loadAt, Instr.sureAddr, Sem.run_bind, Sem.run_pure, Result.andThen]
  exact run_loadVar_row _ _ _ _ kc fr _ h Tryd.underlying126 rfl (by kernel_rfl)
end

/-- What a model is made of: the tables and their rows, the mixer and its sets, the stage and its steps. -/
structure Ids where
  g : Nat → Nat
  v : Nat → Value
  m : Nat
  h : Nat
  s : Nat
  z : Nat
def Ids.has (d : Ids) (k : Nat) : Prop := (∃ i, i < 3 ∧ (k = d.g i ∨ (d.v i).ownBlock = some k)) ∨ k = d.m ∨ k = d.h ∨ k = d.s ∨ k = d.z

/-- The tables, and where each is asked. -/
def Mo.tab (m : Mo) (k : Nat) : Nat → Nat := if k = 0 then m.A else if k = 1 then m.B else m.C
def Mo.key (m : Mo) (k : Nat) : Nat := if k = 0 then m.part else if k = 1 then m.two else m.three
theorem Mo.Fine.key_lt {m : Mo} (h : m.Fine) (k : Nat) : m.key k < tn k := by
  have hp := h.p
  have hl := h.l
  unfold Mo.key tn Mo.two Mo.three key2 key3
  split
  · omega
  · split <;> omega

/-- Its parts in memory. -/
structure Prt (w : World) (d : Ids) (F : Nat → Nat → Nat) (W : Nat → Nat → Int) (T : Nat → Nat → Int) (s : Nat) (I : Nat → Int) (t : Int) (q : Option (Nat × Nat)) : Prop where
  tab : ∀ i, i < 3 → TabC w (d.g i) (d.v i) (ft (tn i) (F i))
  mx : Mxr w d.m d.h 256 W s I t
  sg : Stg w d.s d.z 256 T q
  inj : ∀ i j k, i < 3 → j < 3 → (d.v i).ownBlock = some k → (d.v j).ownBlock = some k → i = j

section
variable {w w' : World} {d : Ids} {F : Nat → Nat → Nat} {W : Nat → Nat → Int} {T : Nat → Nat → Int} {s : Nat} {I : Nat → Int} {t : Int} {q : Option (Nat × Nat)} {S : Nat → Prop}
theorem Prt.kept (p : Prt w d F W T s I t q) (hk : Kept S w w') (h : ∀ k, d.has k → ¬ S k) : Prt w' d F W T s I t q :=
  ⟨fun i hi => (p.tab i hi).kept hk (h _ (.inl ⟨i, hi, .inl rfl⟩)) (fun _ e => h _ (.inl ⟨i, hi, .inr e⟩)),
   p.mx.kept hk (h _ (.inr (.inl rfl))) (h _ (.inr (.inr (.inl rfl)))), p.sg.kept hk (h _ (.inr (.inr (.inr (.inl rfl))))) (h _ (.inr (.inr (.inr (.inr rfl))))), p.inj⟩
theorem Prt.fresh (p : Prt w d F W T s I t q) (hk : Fresh w w') : Prt w' d F W T s I t q := p.kept hk (fun _ _ => id)
theorem Prt.lt (p : Prt w d F W T s I t q) {k : Nat} (h : d.has k) : k < w.heap.size := by
  rcases h with ⟨i, hi, rfl | e⟩ | rfl | rfl | rfl | rfl
  · exact (p.tab i hi).blk.lt
  · exact (p.tab i hi).own.lt e
  · exact p.mx.blk.lt
  · exact p.mx.sets.lt
  · exact p.sg.blk.lt
  · exact p.sg.steps.lt
/-- A block of another type is none of them. -/
theorem Prt.ne_ (p : Prt w d F W T s I t q) {b : Nat} {ty : TypeId} {cs : Array Value} (hb : Blk w b ty cs) (h1 : 147 ≠ ty) (h2 : 108 ≠ ty) (h3 : 137 ≠ ty) (h4 : 138 ≠ ty) (h5 : 144 ≠ ty) (h6 : 140 ≠ ty) {k : Nat} (h : d.has k) : k ≠ b := by
  rcases h with ⟨i, hi, rfl | e⟩ | rfl | rfl | rfl | rfl
  · exact Blk.ne_ (p.tab i hi).blk hb h1
  · rintro rfl; exact (p.tab i hi).own.ne_blk hb h2 e
  · exact Blk.ne_ p.mx.blk hb h3
  · exact Blk.ne_ p.mx.sets hb h4
  · exact Blk.ne_ p.sg.blk hb h5
  · exact Blk.ne_ p.sg.steps hb h6
theorem tabs_far (h : ∀ i, i < 3 → TabC w (d.g i) (d.v i) (ft (tn i) (F i))) (hk : Kept S w w') {b : Nat} (hS : ∀ k, S k → k = b) {ty : TypeId} {cs : Array Value} (hb : Blk w b ty cs) (h1 : 147 ≠ ty) (h2 : 108 ≠ ty) : ∀ i, i < 3 → TabC w' (d.g i) (d.v i) (ft (tn i) (F i)) :=
  fun i hi => (h i hi).kept hk (fun e => Blk.ne_ (h i hi).blk hb h1 (hS _ e)) (fun k e e' => (h i hi).own.ne_blk hb h2 (by rw [e, hS _ e']))
/-- The mixer turns. -/
theorem Prt.mixed (p : Prt w d F W T s I t q) (hk : Kept S w w') (hS : ∀ k, S k → k = d.m) {W' : Nat → Nat → Int} {s' : Nat} {I' : Nat → Int} {t' : Int} (hm : Mxr w' d.m d.h 256 W' s' I' t') : Prt w' d F W' T s' I' t' q :=
  ⟨tabs_far p.tab hk hS p.mx.blk (by decide) (by decide), hm, p.sg.kept hk (fun e => Blk.ne_ p.sg.blk p.mx.blk (by decide) (hS _ e)) (fun e => Blk.ne_ p.sg.steps p.mx.blk (by decide) (hS _ e)), p.inj⟩
theorem Prt.weighed (p : Prt w d F W T s I t q) (hk : Kept S w w') (hS : ∀ k, S k → k = d.h) {W' : Nat → Nat → Int} {s' : Nat} {I' : Nat → Int} {t' : Int} (hm : Mxr w' d.m d.h 256 W' s' I' t') : Prt w' d F W' T s' I' t' q :=
  ⟨tabs_far p.tab hk hS p.mx.sets (by decide) (by decide), hm, p.sg.kept hk (fun e => Blk.ne_ p.sg.blk p.mx.sets (by decide) (hS _ e)) (fun e => Blk.ne_ p.sg.steps p.mx.sets (by decide) (hS _ e)), p.inj⟩
/-- The stage turns. -/
theorem Prt.staged (p : Prt w d F W T s I t q) (hk : Kept S w w') (hS : ∀ k, S k → k = d.s) {T' : Nat → Nat → Int} {q' : Option (Nat × Nat)} (hs : Stg w' d.s d.z 256 T' q') : Prt w' d F W T' s I t q' :=
  ⟨tabs_far p.tab hk hS p.sg.blk (by decide) (by decide), p.mx.kept hk (fun e => Blk.ne_ p.mx.blk p.sg.blk (by decide) (hS _ e)) (fun e => Blk.ne_ p.mx.sets p.sg.blk (by decide) (hS _ e)), hs, p.inj⟩
theorem Prt.stepped (p : Prt w d F W T s I t q) (hk : Kept S w w') (hS : ∀ k, S k → k = d.z) {T' : Nat → Nat → Int} {q' : Option (Nat × Nat)} (hs : Stg w' d.s d.z 256 T' q') : Prt w' d F W T' s I t q' :=
  ⟨tabs_far p.tab hk hS p.sg.steps (by decide) (by decide), p.mx.kept hk (fun e => Blk.ne_ p.mx.blk p.sg.steps (by decide) (hS _ e)) (fun e => Blk.ne_ p.mx.sets p.sg.steps (by decide) (hS _ e)), hs, p.inj⟩
/-- A table learns. -/
theorem Prt.tabbed (p : Prt w d F W T s I t q) {i : Nat} (hi : i < 3) {G : Nat → Nat} (hk : Kept (fun k => (d.v i).ownBlock = some k) w w') (hg : TabC w' (d.g i) (d.v i) (ft (tn i) G)) : Prt w' d (upd F i G) W T s I t q := by
  have hne : ∀ {b : Nat} {ty : TypeId} {cs : Array Value}, Blk w b ty cs → 108 ≠ ty → ¬ (d.v i).ownBlock = some b := fun hb h => (p.tab i hi).own.ne_blk hb h
  refine ⟨fun j hj => ?_, p.mx.kept hk (hne p.mx.blk (by decide)) (hne p.mx.sets (by decide)), p.sg.kept hk (hne p.sg.blk (by decide)) (hne p.sg.steps (by decide)), p.inj⟩
  by_cases e : j = i
  · subst e; rw [upd_at]; exact hg
  · rw [upd_ne e]
    exact (p.tab j hj).kept hk (hne (p.tab j hj).blk (by decide)) (fun k e1 e2 => e (p.inj j i k hj hi e1 e2))
end

theorem run_array_to {P : Program} (t e : TypeId) (N : Nat) (ht : P.underlying t = some (.array N e)) (hc : ∀ w, (sizeOf e).run P w = .ok 1 w) (a : Addr) (h : Nat) (k : Int) (hk : k = h) (hN : h ≤ N) (W : World) :
    (Instr.sliceAt t (.pointer (some a)) none (some (.int .i64 k)) none).run P W = .ok (.slice (some a) h N) W := by
  subst hk
  have hl : P.arrayLen t = N := by simp [Program.arrayLen, ht]
  have he : P.elem t = e := by simp [Program.elem, ht]
  rw [run_sliceAt_array_h W t a (by rw [hl, he]; exact ht) .i64 (h : Int) (by omega) (by rw [hl]; omega), he, hl, hc]
  simp [Result.andThen, slicedAt]
  intro e0
  simp [Addr.add]

/-- The cells of a model. -/
def mcs (d : Ids) (lv : Nat) (part last older : Nat) (u : Int) : Array Value :=
  #[.int .u32 part, .int .u32 last, .int .u32 older, .int .i64 lv, .pointer (some ⟨d.g 0, 0, none⟩), .pointer (some ⟨d.g 1, 0, none⟩), .pointer (some ⟨d.g 2, 0, none⟩), .pointer (some ⟨d.m, 0, none⟩), .pointer (some ⟨d.s, 0, none⟩), .int .i64 u]
theorem mcs_tab {d : Ids} {lv part last older : Nat} {u : Int} {k : Nat} (h : k < 3) : (mcs d lv part last older u)[4 + k]? = some (.pointer (some ⟨d.g k, 0, none⟩)) := by
  rcases (by omega : k = 0 ∨ k = 1 ∨ k = 2) with rfl | rfl | rfl <;> rfl

theorem or_low {a b : Nat} (ha : a ≤ 255) (hb : b ≤ 255) : bits .or .u32 ((a : Int) * 256) (b : Int) = ((a * 256 + b : Nat) : Int) := by
  have h := u32_or_nat (a * 256) b (by omega) (by omega)
  have e := Nat.two_pow_add_eq_or_of_lt (i := 8) (b := b) (by omega) a
  rw [show (a * 256 : Nat) ||| b = a * 256 + b by rw [Nat.mul_comm a 256]; exact e.symm] at h
  rw [← h]
  congr 1

set_option maxHeartbeats 1600000 in
/-- places. -/
theorem places_any (g : Nat) (d : Ids) (lv pt la ol : Nat) (u : Int) (w : World) (hb : Blk w g 103 (mcs d lv pt la ol u)) (h1 : pt ≤ 255) (h2 : la ≤ 255) (h3 : ol ≤ 255) :
    Calls Tryd.prog 74 #[.pointer (some ⟨g, 0, none⟩)] w fun e w' => e = .returned (.agg #[.int .i64 (pt : Nat), .int .i64 (key2 la pt : Nat), .int .i64 (key3 ol la pt : Nat)]) ∧ Fresh w w' := by
  have c0 : w.cell? ⟨g, 0, none⟩ = some (.int .u32 pt) := hb.cell 0
  have c1 : w.cell? ⟨g, 1, none⟩ = some (.int .u32 la) := hb.cell 1
  have c2 : w.cell? ⟨g, 2, none⟩ = some (.int .u32 ol) := hb.cell 2
  have hlt := hb.lt
  have e1 := or_low h3 h2
  have e2 := or_low h2 h1
  have hk : (((ol * 256 + la : Nat) : Int) * 40503 + (pt : Int) * 7919) % 65536 = (key3 ol la pt : Nat) := by unfold key3; omega
  have hkt : (((ol * 256 + la : Nat) : Int) * 40503 + (pt : Int) * 7919).tmod 65536 = (key3 ol la pt : Nat) := by rw [Int.tmod_eq_emod_of_nonneg (by omega)]; exact hk
  have hx : ol * 256 + la < 65536 := by omega
  have hk3 : key3 ol la pt < 65536 := by unfold key3; omega
  have hk2 : key2 la pt = la * 256 + pt := rfl
  have hw := Blk.new w 120 #[.int .i64 0, .int .i64 0, .int .i64 0]
  have hf : Fresh w (w.alloc (.cells #[.int .i64 0, .int .i64 0, .int .i64 0] 120)) := (Kept.refl _ _).alloc _
  have hb1 := hb.alloc (.cells #[.int .i64 0, .int .i64 0, .int .i64 0] 120)
  have HW : Hid (∀ n, Blk ((w.alloc (.cells #[.int .i64 0, .int .i64 0, .int .i64 0] 120)).drewN n) w.heap.size 120 #[.int .i64 0, .int .i64 0, .int .i64 0] ∧ Blk ((w.alloc (.cells #[.int .i64 0, .int .i64 0, .int .i64 0] 120)).drewN n) g 103 (mcs d lv pt la ol u) ∧ Fresh w ((w.alloc (.cells #[.int .i64 0, .int .i64 0, .int .i64 0] 120)).drewN n)) :=
    Lib.hid fun n => ⟨hw.drewN n, hb1.drewN n, hf.drewN n⟩
  clear hb hw hf hb1
  have h22 : la * 256 + pt < 65536 := by omega
  rw [← hk2] at e2 h22
  clear hk2
  generalize key2 la pt = z2 at *
  generalize key3 ol la pt = z at *
  generalize ol * 256 + la = x at *
  go_enter Tryd.func74, Tryd.ntmps74
  go_wp2_with fail
  go_quiet (fail)
  go_wp2_with fail
  have H1 := Lib.hid (HW.out nq)
  have c0 : ((w.alloc (.cells #[.int .i64 0, .int .i64 0, .int .i64 0] 120)).drewN nq).cell? ⟨g, 0, none⟩ = some (.int .u32 pt) := H1.out.2.1.cell 0
  have c1 : ((w.alloc (.cells #[.int .i64 0, .int .i64 0, .int .i64 0] 120)).drewN nq).cell? ⟨g, 1, none⟩ = some (.int .u32 la) := H1.out.2.1.cell 1
  clear HW
  generalize (w.alloc (.cells #[.int .i64 0, .int .i64 0, .int .i64 0] 120)).drewN nq = w1 at *
  have u1 : IntKind.i64.wrap (pt : Int) = (pt : Int) := IntWalk.i64_in _ (by omega)
  have u2 : IntKind.u32.wrap ((la : Int) * 256) = (la : Int) * 256 := by rw [IntKind.wrap_u32]; omega
  have u3 : IntKind.i64.wrap (z2 : Int) = (z2 : Int) := IntWalk.i64_in _ (by omega)
  have u4 : IntKind.i64.wrap (z : Int) = (z : Int) := IntWalk.i64_in _ (by omega)
  go_still_tail 20, (by kernel_rfl)
  change wpList _ _ _ _ _ w1.drew
  clear u1 u2 u3 u4
  have HST := Lib.hid (run_storeAt_blk (P := Tryd.prog) (cs' := #[.int .i64 pt, .int .i64 z2, .int .i64 z]) (ty := 120) H1.out.1.drew (by kernel_rfl) rfl (by rw [show (#[.int .i64 pt, .int .i64 z2, .int .i64 z] : Array Value) = (ivs .i64 [(pt : Int), (z2 : Int), (z : Int)]).toArray from rfl]; exact toArray_all (ivs_one _ _)))
  have H2 : Hid (Blk (w1.drew.setRow w.heap.size #[.int .i64 pt, .int .i64 z2, .int .i64 z]) w.heap.size 120 #[.int .i64 pt, .int .i64 z2, .int .i64 z] ∧ Fresh w (w1.drew.setRow w.heap.size #[.int .i64 pt, .int .i64 z2, .int .i64 z])) := Lib.hid ⟨H1.out.1.drew.rowed, H1.out.2.2.drew.rowed _ (fun h => by omega)⟩
  refine wpList_store_eq rfl (.tmp 2) (.tmp 40) 120 rfl _ _ rfl rfl HST.out ?_
  generalize w1.drew.setRow w.heap.size #[.int .i64 pt, .int .i64 z2, .int .i64 z] = w2 at *
  have HL := Lib.hid (run_loadVar_blk (P := Tryd.prog) (ty := 120) H2.out.1 Tryd.underlying120 (by kernel_rfl))
  go_wp2_with fail
  refine bodyPost_ret (v := .agg #[.int .i64 pt, .int .i64 z2, .int .i64 z]) ?_ rfl ⟨rfl, H2.out.2⟩
  simp only [results, Tryd.results74, Sem.run_bind, asAddr, Result.andThen]
  simp [Act.put, HL.out]

set_option maxHeartbeats 1600000 in
/-- take. -/
theorem take_any (g : Nat) (d : Ids) (lv pt la ol : Nat) (u b : Int) (w : World) (hb : Blk w g 103 (mcs d lv pt la ol u)) (h0 : 1 ≤ pt) (h1 : pt ≤ 255) :
    Calls Tryd.prog 79 #[.pointer (some ⟨g, 0, none⟩), .int .i64 b] w fun e w' => e = .returned (.tuple #[]) ∧
      Blk w' g 103 (mcs d lv (nextPart pt (b != 0)) (nextLast pt la (b != 0)) (nextOlder pt la ol (b != 0)) u) ∧ Kept (fun k => k = g) w w' := by
  have c0 : w.cell? ⟨g, 0, none⟩ = some (.int .u32 pt) := hb.cell 0
  have f0 := hb.frozen 0
  obtain ⟨one, hone⟩ : ∃ one, (b != 0) = one := ⟨_, rfl⟩
  rw [hone]
  cases one
  · have hb1 := hb.set_ 0 (.int .u32 (pt * 2))
    have hk1 : Kept (fun k => k = g) w (w.setCell ⟨g, 0, none⟩ (.int .u32 (pt * 2))) := (Kept.refl (fun k => k = g) w).setCell (p := ⟨g, 0, none⟩) (fun _ => rfl) _
    have H1 := Lib.hid (And.intro hb1 hk1)
    have d0 : (w.setCell ⟨g, 0, none⟩ (.int .u32 (pt * 2))).cell? ⟨g, 0, none⟩ = some (.int .u32 (pt * 2)) := hb1.cell 0
    clear hk1 hb
    go_enter Tryd.func79, Tryd.ntmps79
    by_cases hbig : 256 ≤ pt * 2
    · have hd : decide (256 ≤ (pt : Int) * 2) = true := by simp; omega
      go_wp2_with fail
      have d1 : (w.setCell ⟨g, 0, none⟩ (.int .u32 (pt * 2))).cell? ⟨g, 1, none⟩ = some (.int .u32 la) := hb1.cell 1
      have d2 : (w.setCell ⟨g, 0, none⟩ (.int .u32 (pt * 2))).cell? ⟨g, 2, none⟩ = some (.int .u32 ol) := hb1.cell 2
      have g0 := hb1.frozen 0
      have g1 := hb1.frozen 1
      have g2 := hb1.frozen 2
      have e1 : IntKind.u32.wrap ((pt : Int) * 2 - 256) = (pt : Int) * 2 - 256 := by rw [IntKind.wrap_u32]; omega
      clear c0 f0 hb1
      generalize w.setCell ⟨g, 0, none⟩ (.int .u32 (pt * 2)) = w1 at *
      go_region
      show bodyPost _ _ _ _ _ _
      go_end0
      refine ⟨rfl, ?_, (((H1.out.2.setCell (p := ⟨g, 2, none⟩) (fun _ => rfl) _).setCell (p := ⟨g, 1, none⟩) (fun _ => rfl) _).setCell (p := ⟨g, 0, none⟩) (fun _ => rfl) _).drew⟩
      have h := (((H1.out.1.set_ 2 (.int .u32 la)).set_ 1 (.int .u32 (pt * 2 - 256))).set_ 0 (.int .u32 1)).drew
      have e2 : ((pt * 2 - 256 : Nat) : Int) = (pt : Int) * 2 - 256 := by omega
      have n1 : nextPart pt false = 1 := if_pos (by show 2 * pt + 0 ≥ 256; omega)
      have n2 : nextLast pt la false = pt * 2 - 256 := (if_pos (by show 2 * pt + 0 ≥ 256; omega)).trans (by show 2 * pt + 0 - 256 = _; omega)
      have n3 : nextOlder pt la ol false = la := if_pos (by show 2 * pt + 0 ≥ 256; omega)
      rw [n1, n2, n3]
      simpa [mcs, e2] using h
    · have hd : decide (256 ≤ (pt : Int) * 2) = false := by simp; omega
      clear hb1
      go_wp2_with fail
      go_end0
      refine ⟨rfl, ?_, H1.out.2⟩
      have h := H1.out.1
      have n1 : nextPart pt false = pt * 2 := (if_neg (by show ¬ 2 * pt + 0 ≥ 256; omega)).trans (by show 2 * pt + 0 = _; omega)
      have n2 : nextLast pt la false = la := if_neg (by show ¬ 2 * pt + 0 ≥ 256; omega)
      have n3 : nextOlder pt la ol false = ol := if_neg (by show ¬ 2 * pt + 0 ≥ 256; omega)
      rw [n1, n2, n3]
      simpa [mcs] using h
  · have hb1 := (hb.set_ 0 (.int .u32 (pt * 2))).set_ 0 (.int .u32 (pt * 2 + 1))
    have hk1 : Kept (fun k => k = g) w ((w.setCell ⟨g, 0, none⟩ (.int .u32 (pt * 2))).setCell ⟨g, 0, none⟩ (.int .u32 (pt * 2 + 1))) := ((Kept.refl (fun k => k = g) w).setCell (p := ⟨g, 0, none⟩) (fun _ => rfl) _).setCell (p := ⟨g, 0, none⟩) (fun _ => rfl) _
    have H1 := Lib.hid (And.intro hb1 hk1)
    have p0 : (w.setCell ⟨g, 0, none⟩ (.int .u32 (pt * 2))).cell? ⟨g, 0, none⟩ = some (.int .u32 (pt * 2)) := (hb.set_ 0 (.int .u32 (pt * 2))).cell 0
    have q0 := (hb.set_ 0 (.int .u32 (pt * 2))).frozen 0
    have d0 : ((w.setCell ⟨g, 0, none⟩ (.int .u32 (pt * 2))).setCell ⟨g, 0, none⟩ (.int .u32 (pt * 2 + 1))).cell? ⟨g, 0, none⟩ = some (.int .u32 (pt * 2 + 1)) := hb1.cell 0
    clear hk1 hb
    go_enter Tryd.func79, Tryd.ntmps79
    by_cases hbig : 256 ≤ pt * 2 + 1
    · have hd : decide (256 ≤ (pt : Int) * 2 + 1) = true := by simp; omega
      go_wp2_with fail
      have d1 : ((w.setCell ⟨g, 0, none⟩ (.int .u32 (pt * 2))).setCell ⟨g, 0, none⟩ (.int .u32 (pt * 2 + 1))).cell? ⟨g, 1, none⟩ = some (.int .u32 la) := hb1.cell 1
      have d2 : ((w.setCell ⟨g, 0, none⟩ (.int .u32 (pt * 2))).setCell ⟨g, 0, none⟩ (.int .u32 (pt * 2 + 1))).cell? ⟨g, 2, none⟩ = some (.int .u32 ol) := hb1.cell 2
      have g0 := hb1.frozen 0
      have g1 := hb1.frozen 1
      have g2 := hb1.frozen 2
      have e1 : IntKind.u32.wrap ((pt : Int) * 2 + 1 - 256) = (pt : Int) * 2 + 1 - 256 := by rw [IntKind.wrap_u32]; omega
      clear c0 f0 hb1 p0 q0
      generalize (w.setCell ⟨g, 0, none⟩ (.int .u32 (pt * 2))).setCell ⟨g, 0, none⟩ (.int .u32 (pt * 2 + 1)) = w1 at *
      go_region
      show bodyPost _ _ _ _ _ _
      go_end0
      refine ⟨rfl, ?_, (((H1.out.2.setCell (p := ⟨g, 2, none⟩) (fun _ => rfl) _).setCell (p := ⟨g, 1, none⟩) (fun _ => rfl) _).setCell (p := ⟨g, 0, none⟩) (fun _ => rfl) _).drew⟩
      have h := (((H1.out.1.set_ 2 (.int .u32 la)).set_ 1 (.int .u32 (pt * 2 + 1 - 256))).set_ 0 (.int .u32 1)).drew
      have e2 : ((pt * 2 - 255 : Nat) : Int) = (pt : Int) * 2 + 1 - 256 := by omega
      have n1 : nextPart pt true = 1 := if_pos (by show 2 * pt + 1 ≥ 256; omega)
      have n2 : nextLast pt la true = pt * 2 - 255 := (if_pos (by show 2 * pt + 1 ≥ 256; omega)).trans (by show 2 * pt + 1 - 256 = _; omega)
      have n3 : nextOlder pt la ol true = la := if_pos (by show 2 * pt + 1 ≥ 256; omega)
      rw [n1, n2, n3]
      simpa [mcs, e2] using h
    · have hd : decide (256 ≤ (pt : Int) * 2 + 1) = false := by simp; omega
      clear hb1
      go_wp2_with fail
      go_end0
      refine ⟨rfl, ?_, H1.out.2⟩
      have h := H1.out.1
      have n1 : nextPart pt true = pt * 2 + 1 := (if_neg (by show ¬ 2 * pt + 1 ≥ 256; omega)).trans (by show 2 * pt + 1 = _; omega)
      have n2 : nextLast pt la true = la := if_neg (by show ¬ 2 * pt + 1 ≥ 256; omega)
      have n3 : nextOlder pt la ol true = ol := if_neg (by show ¬ 2 * pt + 1 ≥ 256; omega)
      rw [n1, n2, n3]
      simpa [mcs] using h

set_option maxHeartbeats 1600000 in
/-- asked. -/
theorem asked_any (g : Nat) (d : Ids) (lv pt la ol : Nat) (u : Int) (w : World) (hb : Blk w g 103 (mcs d lv pt la ol u)) (h1 : lv ≤ 2) :
    Calls Tryd.prog 82 #[.pointer (some ⟨g, 3, none⟩)] w fun e w' => e = .returned (.slice (some ⟨g, 4, none⟩) (lv + 1) 3) ∧ ∃ n, w' = w.drewN n := by
  have c3 : w.cell? ⟨g, 3, none⟩ = some (.int .i64 lv) := hb.cell 3
  have hs := run_array_to (P := Tryd.prog) 96 94 3 Tryd.underlying96 (fun w => by kernel_rfl) ⟨g, 4, none⟩ (lv + 1) ((lv : Int) + 1) (by omega) (by omega)
  have k0 : (0 : Int) ≤ (lv : Int) := by omega
  have k1 : (lv : Int) ≤ 2 := by omega
  clear hb
  go_enter Tryd.func82, Tryd.ntmps82
  go_wp2_with fail
  go_quiet (fail)
  go_wp2_with fail
  go_ret
  exact ⟨rfl, _, rfl⟩

end Go.Proofs.YtpknbfkknnaajaaDoor
