/- Texts of this proof, one behind the other: ModQ. -/
import Derived.Test.YtpknbfkknnaajaaDoorPart16
import Derived.Test.YtpknbfkknnaajaaDoorPart23
import Derived.Test.YtpknbfkknnaajaaDoorPart25
import Derived.Test.YtpknbfkknnaajaaDoorPart26

/- The document's model in memory: its parts (PrR); second, third. -/
namespace Go.Proofs.YtpknbfkknnaajaaDoor
set_option maxRecDepth 100000
open Go.RowKit

attribute [local go_sem ↓] Go.wp_at_zero Go.wp_at_succ

/-- What it is made of. -/
structure RId where
  g : Nat → Nat
  v : Nat → Value
  B1 : Nat
  m : Nat
  vW : Value
  Q : Nat → Nat
  C : Nat → Nat
  B2 : Nat
  s : Nat
  vS : Value
  Q2 : Nat → Nat
  C2 : Nat → Nat

def RId.has (d : RId) (vI : Value) (k : Nat) : Prop :=
  (∃ i, i < 3 ∧ (k = d.g i ∨ (d.v i).ownBlock = some k)) ∨ k = d.m ∨ d.vW.ownBlock = some k ∨ (∃ i, i < 256 ∧ k = d.Q i) ∨ vI.ownBlock = some k ∨ k = d.s ∨ d.vS.ownBlock = some k ∨ ∃ i, i < 256 ∧ k = d.Q2 i
theorem RId.has_I {d : RId} {vI vI' : Value} {k : Nat} (h : d.has vI' k) : d.has vI k ∨ vI'.ownBlock = some k := by
  rcases h with h | h | h | h | h | h | h | h
  · exact .inl (.inl h)
  · exact .inl (.inr (.inl h))
  · exact .inl (.inr (.inr (.inl h)))
  · exact .inl (.inr (.inr (.inr (.inl h))))
  · exact .inr h
  · exact .inl (.inr (.inr (.inr (.inr (.inr (.inl h))))))
  · exact .inl (.inr (.inr (.inr (.inr (.inr (.inr (.inl h)))))))
  · exact .inl (.inr (.inr (.inr (.inr (.inr (.inr (.inr h)))))))

/-- Its parts in memory; none of them lies in A, blocks that are there. -/
structure PrR (A : Nat → Prop) (w : World) (d : RId) (F : Nat → Nat → Nat) (W T : Nat → Nat → Int) (vI : Value) (s : Nat) (I : Nat → Int) (t : Int) (has : Bool) (s2 k2 : Nat) (has2 : Bool) : Prop where
  tab : ∀ i, i < 3 → TabR w (d.g i) (d.v i) (ft (tn i) (F i))
  mx : MxR w d.B1 d.m d.vW vI 256 d.Q d.C W s I t has
  sg : StR w d.B2 d.s d.vS 256 d.Q2 d.C2 T s2 k2 has2
  inj : ∀ i j k, i < 3 → j < 3 → (d.v i).ownBlock = some k → (d.v j).ownBlock = some k → i = j
  q : ∀ i j, i < 256 → j < 256 → d.Q i ≠ d.Q2 j
  qI : ∀ j, j < 256 → vI.ownBlock ≠ some (d.Q2 j)
  off : ∀ k, d.has vI k → ¬ A k
  small : ∀ k, A k → k < w.heap.size

section
variable {A : Nat → Prop} {w w' : World} {d : RId} {F : Nat → Nat → Nat} {W T : Nat → Nat → Int} {vI : Value} {s : Nat} {I : Nat → Int} {t : Int} {has : Bool} {s2 k2 : Nat} {has2 : Bool} {S : Nat → Prop}
theorem PrR.lt (p : PrR A w d F W T vI s I t has s2 k2 has2) {k : Nat} (h : d.has vI k) : k < w.heap.size := by
  rcases h with ⟨i, hi, rfl | e⟩ | rfl | e | ⟨i, hi, rfl⟩ | e | rfl | e | ⟨i, hi, rfl⟩
  · exact (p.tab i hi).blk.lt
  · exact (p.tab i hi).own.lt e
  · exact p.mx.blk.lt
  · exact (World.ownsRow.lt p.mx.rws.own k e).2
  · exact p.mx.rws.lt hi
  · exact p.mx.inp.lt e
  · exact p.sg.blk.lt
  · exact (World.ownsRow.lt p.sg.lst.own k e).2
  · exact p.sg.lst.lt hi
theorem PrR.kept (p : PrR A w d F W T vI s I t has s2 k2 has2) (hk : Kept S w w') (hS : ∀ k, S k → A k) : PrR A w' d F W T vI s I t has s2 k2 has2 := by
  have hn : ∀ k, d.has vI k → ¬ S k := fun k h e => p.off k h (hS k e)
  exact ⟨fun i hi => (p.tab i hi).kept hk (hn _ (.inl ⟨i, hi, .inl rfl⟩)) (fun k e => hn k (.inl ⟨i, hi, .inr e⟩)),
    p.mx.kept hk (hn _ (.inr (.inl rfl))) (fun k e => hn k (.inr (.inr (.inl e)))) (fun i hi => hn _ (.inr (.inr (.inr (.inl ⟨i, hi, rfl⟩))))) (fun k e => hn k (.inr (.inr (.inr (.inr (.inl e)))))),
    p.sg.kept hk (hn _ (.inr (.inr (.inr (.inr (.inr (.inl rfl))))))) (fun k e => hn k (.inr (.inr (.inr (.inr (.inr (.inr (.inl e)))))))) (fun i hi => hn _ (.inr (.inr (.inr (.inr (.inr (.inr (.inr ⟨i, hi, rfl⟩)))))))),
    p.inj, p.q, p.qI, p.off, fun k h => Nat.lt_of_lt_of_le (p.small k h) hk.size⟩
/-- Other blocks that it is none of. -/
theorem PrR.move {A' : Nat → Prop} {S : Nat → Prop} (p : PrR A w d F W T vI s I t has s2 k2 has2) (hk : Kept S w w') (hS : ∀ k, S k → A k) (hA : ∀ k, A' k → k < w'.heap.size ∧ (A k ∨ w.heap.size ≤ k)) : PrR A' w' d F W T vI s I t has s2 k2 has2 := by
  have p' := p.kept hk hS
  refine ⟨p'.tab, p'.mx, p'.sg, p'.inj, p'.q, p'.qI, fun k h e => ?_, fun k h => (hA k h).1⟩
  rcases (hA k e).2 with h1 | h1
  · exact p.off k h h1
  · have := p.lt h; omega
theorem PrR.fresh (p : PrR A w d F W T vI s I t has s2 k2 has2) (hk : Fresh w w') : PrR A w' d F W T vI s I t has s2 k2 has2 := p.kept hk (fun _ h => h.elim)
theorem PrR.drewN (p : PrR A w d F W T vI s I t has s2 k2 has2) (n : Nat) : PrR A (w.drewN n) d F W T vI s I t has s2 k2 has2 := p.fresh ((Kept.refl _ w).drewN n)
theorem rtabs_far (h : ∀ i, i < 3 → TabR w (d.g i) (d.v i) (ft (tn i) (F i))) (hk : Kept S w w') {b : Nat} (hS : ∀ k, S k → k = b) {ty : TypeId} {cs : Array Value} (hb : Blk w b ty cs) (h1 : 107 ≠ ty) (h2 : 108 ≠ ty) : ∀ i, i < 3 → TabR w' (d.g i) (d.v i) (ft (tn i) (F i)) :=
  fun i hi => (h i hi).kept hk (fun e => Blk.ne_ (h i hi).blk hb h1 (hS _ e)) (fun k e e' => (h i hi).own.ne_blk hb h2 (by rw [e, hS _ e']))
theorem MxR.off (m : MxR w d.B1 d.m d.vW vI 256 d.Q d.C W s I t has) (hk : Kept S w w') {b : Nat} (hS : ∀ k, S k → k = b) {ty : TypeId} {cs : Array Value} (hb : Blk w b ty cs) (h1 : 112 ≠ ty) (h2 : 110 ≠ ty) (h3 : 3 ≠ ty) : MxR w' d.B1 d.m d.vW vI 256 d.Q d.C W s I t has :=
  m.far (hk.mono (fun i _ e => hS i e)) hb h1 h2 h3
/-- A block of another type turns. -/
theorem PrR.far (p : PrR A w d F W T vI s I t has s2 k2 has2) (hk : Kept S w w') {b : Nat} (hS : ∀ k, S k → k = b) {ty : TypeId} {cs : Array Value} (hb : Blk w b ty cs) (h1 : 107 ≠ ty) (h2 : 108 ≠ ty) (h3 : 112 ≠ ty) (h4 : 110 ≠ ty) (h5 : 3 ≠ ty) (h6 : 114 ≠ ty) : PrR A w' d F W T vI s I t has s2 k2 has2 :=
  ⟨rtabs_far p.tab hk hS hb h1 h2, p.mx.off hk hS hb h3 h4 h5, p.sg.far hk hS hb h6 h4 h5, p.inj, p.q, p.qI, p.off, fun k h => Nat.lt_of_lt_of_le (p.small k h) hk.size⟩
/-- Mix. -/
theorem PrR.mixed (p : PrR A w d F W T vI s I t has s2 k2 has2) (hk : Kept (fun k => k = d.m) w w') {vI' : Value} {s' : Nat} {I' : Nat → Int} {t' : Int} {has' : Bool} (hI : ∀ k, vI'.ownBlock = some k → w.heap.size ≤ k) (hm : MxR w' d.B1 d.m d.vW vI' 256 d.Q d.C W s' I' t' has') : PrR A w' d F W T vI' s' I' t' has' s2 k2 has2 :=
  ⟨rtabs_far p.tab hk (fun _ h => h) p.mx.blk (by decide) (by decide), hm, p.sg.far hk (fun _ h => h) p.mx.blk (by decide) (by decide) (by decide), p.inj, p.q, fun j hj e => by have := hI _ e; have := p.sg.lst.lt hj; omega,
   fun k h e => (RId.has_I h).elim (fun h => p.off k h e) (fun h => by have := hI k h; have := p.small k e; omega), fun k h => Nat.lt_of_lt_of_le (p.small k h) hk.size⟩
/-- The mixer learns. -/
theorem PrR.weighed (p : PrR A w d F W T vI s I t has s2 k2 has2) {i : Nat} (hi : i < 256) (hk : Kept (fun k => k = d.Q i) w w') {W' : Nat → Nat → Int} {s' : Nat} {I' : Nat → Int} {t' : Int} {has' : Bool} (hm : MxR w' d.B1 d.m d.vW vI 256 d.Q d.C W' s' I' t' has') : PrR A w' d F W' T vI s' I' t' has' s2 k2 has2 := by
  obtain ⟨cs, hb⟩ := p.mx.rws.blk hi
  exact ⟨rtabs_far p.tab hk (fun _ h => h) hb (by decide) (by decide), hm, p.sg.kept hk (Blk.ne_ p.sg.blk hb (by decide)) (fun k e e' => Own.ne_blk2 p.sg.lst.own hb (by decide) (by rw [e, e'])) (fun j hj e => p.q i j hi hj e.symm), p.inj, p.q, p.qI, p.off, fun k h => Nat.lt_of_lt_of_le (p.small k h) hk.size⟩
/-- Refine. -/
theorem PrR.staged (p : PrR A w d F W T vI s I t has s2 k2 has2) (hk : Kept (fun k => k = d.s) w w') {s2' k2' : Nat} {has2' : Bool} (hs : StR w' d.B2 d.s d.vS 256 d.Q2 d.C2 T s2' k2' has2') : PrR A w' d F W T vI s I t has s2' k2' has2' :=
  ⟨rtabs_far p.tab hk (fun _ h => h) p.sg.blk (by decide) (by decide), p.mx.off hk (fun _ h => h) p.sg.blk (by decide) (by decide) (by decide), hs, p.inj, p.q, p.qI, p.off, fun k h => Nat.lt_of_lt_of_le (p.small k h) hk.size⟩
/-- The stage learns. -/
theorem PrR.stepped (p : PrR A w d F W T vI s I t has s2 k2 has2) {i : Nat} (hi : i < 256) (hk : Kept (fun k => k = d.Q2 i) w w') {T' : Nat → Nat → Int} {s2' k2' : Nat} {has2' : Bool} (hs : StR w' d.B2 d.s d.vS 256 d.Q2 d.C2 T' s2' k2' has2') : PrR A w' d F W T' vI s I t has s2' k2' has2' := by
  obtain ⟨cs, hb⟩ := p.sg.lst.blk hi
  exact ⟨rtabs_far p.tab hk (fun _ h => h) hb (by decide) (by decide), p.mx.kept hk (Blk.ne_ p.mx.blk hb (by decide)) (fun k e e' => owns_ne p.mx.rws.own hb (by decide) (by rw [e, e'])) (fun j hj e => p.q j i hj hi e) (fun k e e' => p.qI i hi (by rw [e, e'])), hs, p.inj, p.q, p.qI, p.off, fun k h => Nat.lt_of_lt_of_le (p.small k h) hk.size⟩
/-- A table learns. -/
theorem PrR.tabbed (p : PrR A w d F W T vI s I t has s2 k2 has2) {i : Nat} (hi : i < 3) {G : Nat → Nat} (hk : Kept (fun k => (d.v i).ownBlock = some k) w w') (hg : TabR w' (d.g i) (d.v i) (ft (tn i) G)) : PrR A w' d (upd F i G) W T vI s I t has s2 k2 has2 := by
  have hne : ∀ {b : Nat} {ty : TypeId} {cs : Array Value}, Blk w b ty cs → 108 ≠ ty → ¬ (d.v i).ownBlock = some b := fun hb h => (p.tab i hi).own.ne_blk hb h
  obtain ⟨qq, cap, hv, hlt⟩ := (p.tab i hi).form
  have hS : ∀ k, (d.v i).ownBlock = some k → k = qq := fun k e => by rw [hv] at e; simpa [Value.ownBlock] using e.symm
  have hbq : ∃ cs, Blk w qq 108 cs := by
    rcases (p.tab i hi).own.2 with ⟨h', _⟩ | ⟨g', cap', cur, h', _, hg', _⟩
    · rw [hv] at h'; cases h'
    · rw [hv] at h'
      simp only [Value.slice.injEq, Option.some.injEq, Addr.mk.injEq, and_true] at h'
      rw [h'.1]; exact ⟨_, hg'⟩
  obtain ⟨cs, hb⟩ := hbq
  refine ⟨fun j hj => ?_, p.mx.off hk hS hb (by decide) (by decide) (by decide), p.sg.far hk hS hb (by decide) (by decide) (by decide), p.inj, p.q, p.qI, p.off, fun k h => Nat.lt_of_lt_of_le (p.small k h) hk.size⟩
  by_cases e : j = i
  · subst e; rw [upd_at]; exact hg
  · rw [upd_ne e]
    exact (p.tab j hj).kept hk (hne (p.tab j hj).blk (by decide)) (fun k e1 e2 => e (p.inj j i k hj hi e1 e2))
end

/-- The cells of a model. -/
def rmc (d : RId) (lv part last older : Nat) : Array Value :=
  #[.int .i64 lv, .pointer (some ⟨d.g 0, 0, none⟩), .pointer (some ⟨d.g 1, 0, none⟩), .pointer (some ⟨d.g 2, 0, none⟩), .pointer (some ⟨d.m, 0, none⟩), .pointer (some ⟨d.s, 0, none⟩), .int .i64 part, .int .i64 last, .int .i64 older]

set_option maxHeartbeats 800000 in
theorem second_any (g : Nat) (d : RId) (lv pt la ol : Nat) (w : World) (hb : Blk w g 79 (rmc d lv pt la ol)) (h1 : pt ≤ 255) (h2 : la ≤ 255) :
    Calls Tryd.prog 49 #[.pointer (some ⟨g, 0, none⟩)] w fun e w' => e = .returned (.int .i64 (key2 la pt : Nat)) ∧ ∃ n, w' = w.drewN n := by
  have c6 : w.cell? ⟨g, 6, none⟩ = some (.int .i64 pt) := hb.cell 6
  have c7 : w.cell? ⟨g, 7, none⟩ = some (.int .i64 la) := hb.cell 7
  have a0 : (0 : Int) ≤ (pt : Int) := by omega
  have a1 : (pt : Int) ≤ 255 := by omega
  have b0 : (0 : Int) ≤ (la : Int) := by omega
  have b1 : (la : Int) ≤ 255 := by omega
  clear hb
  go_enter Tryd.func49, Tryd.ntmps49
  go_wp2_with fail
  go_quiet (fail)
  go_wp2_with fail
  go_ret
  exact ⟨rfl, _, rfl⟩

set_option maxHeartbeats 800000 in
theorem third_any (g : Nat) (d : RId) (lv pt la ol : Nat) (w : World) (hb : Blk w g 79 (rmc d lv pt la ol)) (h1 : pt ≤ 255) (h2 : la ≤ 255) (h3 : ol ≤ 255) :
    Calls Tryd.prog 47 #[.pointer (some ⟨g, 0, none⟩)] w fun e w' => e = .returned (.int .i64 (key3 ol la pt : Nat)) ∧ ∃ n, w' = w.drewN n := by
  have c6 : w.cell? ⟨g, 6, none⟩ = some (.int .i64 pt) := hb.cell 6
  have c7 : w.cell? ⟨g, 7, none⟩ = some (.int .i64 la) := hb.cell 7
  have c8 : w.cell? ⟨g, 8, none⟩ = some (.int .i64 ol) := hb.cell 8
  have hk : (((ol : Int) * 256 + (la : Int)) * 40503 + (pt : Int) * 7919) % 65536 = (key3 ol la pt : Nat) := by unfold key3; omega
  have hkt : (((ol : Int) * 256 + (la : Int)) * 40503 + (pt : Int) * 7919).tmod 65536 = (key3 ol la pt : Nat) := by rw [Int.tmod_eq_emod_of_nonneg (by omega)]; exact hk
  have a0 : (0 : Int) ≤ (pt : Int) := by omega
  have a1 : (pt : Int) ≤ 255 := by omega
  have b0 : (0 : Int) ≤ (la : Int) := by omega
  have b1 : (la : Int) ≤ 255 := by omega
  have o0 : (0 : Int) ≤ (ol : Int) := by omega
  have o1 : (ol : Int) ≤ 255 := by omega
  clear hb
  generalize key3 ol la pt = z at *
  go_enter Tryd.func47, Tryd.ntmps47
  go_wp2_with fail
  go_quiet (fail)
  go_wp2_with fail
  go_ret
  exact ⟨rfl, _, rfl⟩

end Go.Proofs.YtpknbfkknnaajaaDoor
