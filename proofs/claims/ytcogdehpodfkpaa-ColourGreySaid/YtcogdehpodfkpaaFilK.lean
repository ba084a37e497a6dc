/- slices.Chunk over bytes, rows of one width, and the iterator that it makes. -/
import Derived.Test.YtcogdehpodfkpaaRangeKit
namespace Go.Proofs.Ytcogdehpodfkpaa
open Go.RowKit Go.Shelf
set_option maxRecDepth 100000

attribute [local go_sem] Oper.semAt_some

/-- Row j of the slice. -/
def rowAt (b o wd j : Nat) : Value := .slice (some ⟨b, o + j * wd, none⟩) wd wd

set_option maxHeartbeats 1000000 in
theorem chunkB_any (A : Option Addr) (n c wd : Nat) (w : World) (h : 1 ≤ wd) :
    Calls Try.prog 24 #[.slice A n c, .int .i64 wd] w fun e w' => e = .returned (.func (.func 27) #[] #[.pointer (some ⟨w.heap.size, 0, none⟩), .pointer (some ⟨w.heap.size + 1, 0, none⟩)]) ∧
      w' = (w.alloc (.cells #[.slice A n c] 22)).alloc (.cells #[.int .i64 wd] 3) := by
  have h0 : ¬ (wd : Int) < 1 := by omega
  go_enter Try.func24, Try.ntmps24
  go_wp2
  go_ret
  exact ⟨rfl, rfl⟩

set_option maxHeartbeats 2000000 in
/-- The iterator. -/
theorem chunkB1_in (m : Nat) (hm : 1 ≤ m) (l B b o n c wd R : Nat) (hwd : 1 ≤ wd) (hR : R * wd = n) (hnc : n ≤ c) (hn : n ≤ 4194304) (J Jx : List Nat → World → Prop) (hJ : ∀ s V, J s V → J s V.drew)
    (hY : ∀ x W, J (List.range x) W → x < R → YieldAt Fence.wide (m - 1) Try.prog l #[rowAt b o wd x] W fun e W' =>
      (e = .returned (.bool true) ∧ J (List.range x ++ [x]) W' ∧ BoxesAt B W W') ∨ (e = .returned (.bool false) ∧ Jx (List.range x ++ [x]) W'))
    (W : World) (h1 : Blk W B 22 #[.slice (some ⟨b, o, none⟩) n c]) (h2 : Blk W (B + 1) 3 #[.int .i64 wd]) (h0 : J [] W) :
    CallsIn Fence.wide m Try.prog 27 #[.func (.yield l) #[] #[], .pointer (some ⟨B, 0, none⟩), .pointer (some ⟨B + 1, 0, none⟩)] W fun e W' => (∃ v, e = .returned v) ∧
      ((∃ ys, ys = List.range R ∧ J ys W') ∨ (∃ pre, (∃ k, k ≤ R ∧ pre = List.range k) ∧ Jx pre W')) := by
  have n0 : (n : Int) ≤ 4194304 := by omega
  have n1 : (n : Int) ≤ (c : Int) := by omega
  have Hm : Hid (∀ k, k < R → k * wd + wd ≤ n) := Lib.hid fun k hk => by
    have := Nat.mul_le_mul_right wd (show k + 1 ≤ R from hk)
    rw [Nat.succ_mul] at this
    omega
  have HR := Lib.hid hR
  clear hR
  refine callsIn_of_wp Try.func27 rfl trivial ?_ rfl
  simp only [Try.ntmps27, List.size_toArray, List.length_cons, List.length_nil, Nat.reduceAdd, Nat.reduceSub, Array.replicate_succ, Array.replicate_zero, List.push_toArray, List.append_toArray, List.nil_append, List.cons_append]
  gi_wp2
  gi_loopw [4] (fun i wr => ∃ k P : Nat, k ≤ R ∧ P = k * wd ∧ i = .int .i64 (P : Int) ∧ J (List.range k) wr ∧ Blk wr B 22 #[.slice (some ⟨b, o, none⟩) n c] ∧ Blk wr (B + 1) 3 #[.int .i64 wd])
    (fun i _ => n + 1 - (intOf i).toNat)
  case atStart => exact ⟨0, 0, by omega, by simp, rfl, h0, h1, h2⟩
  case round =>
    obtain ⟨k, P, hk, hP, rfl, hJs, hb1, hb2⟩ := hrel
    have HP := Lib.hid hP
    clear hP
    have c1 := hb1.cell 0
    have c2 := hb2.cell 0
    simp only [List.getElem?_toArray, List.getElem?_cons_zero] at c1 c2
    by_cases hlt : k < R
    · have hPn : P + wd ≤ n := by rw [HP.out]; exact Hm.out k hlt
      obtain ⟨fn, tmps, assign, body, hy, hR⟩ := hY k wr.drew (hJ _ _ hJs) hlt
      unfold rowAt at hy
      rw [← HP.out] at hy
      have j0 : (P : Int) < (n : Int) := by omega
      have hmin : min (wd : Int) ((n - P : Nat) : Int) = (wd : Int) := by omega
      have hb1' := hb1.drew
      have hb2' := hb2.drew
      have c1' : wr.drew.cell? ⟨B, 0, none⟩ = some (.slice (some ⟨b, o, none⟩) n c) := c1
      have c2' : wr.drew.cell? ⟨B + 1, 0, none⟩ = some (.int .i64 wd) := c2
      have jm' : (P : Int) + (wd : Int) ≤ (n : Int) := by omega
      gi_wp2
      gi_region
      obtain ⟨Q, hQ⟩ : ∃ Q, Q = P + wd := ⟨_, rfl⟩
      have jt : (P : Int) + (wd : Int) = (Q : Int) := by omega
      have jw : IntKind.i64.wrap (Q : Int) = (Q : Int) := IntWalk.i64_in _ (by omega)
      have jd : Q - P = wd := by omega
      have jl : P ≤ Q := by omega
      have ju : Q ≤ n := by omega
      have HQ := Lib.hid hQ
      clear hQ
      gi_wp2
      refine hR.mono ?_
      rintro e W3 (⟨rfl, hJ3, hk3⟩ | ⟨rfl, hJx3⟩)
      · have hb1'' : Blk W3 B 22 #[.slice (some ⟨b, o, none⟩) n c] := hk3.1.trans hb1'
        have hb2'' : Blk W3 (B + 1) 3 #[.int .i64 wd] := hk3.2.trans hb2'
        have c2'' := hb2''.cell 0
        simp only [List.getElem?_toArray, List.getElem?_cons_zero] at c2''
        gi_wp2
        go_roundw
        case rel => exact ⟨k + 1, P + wd, by omega, by rw [Nat.succ_mul, HP.out], by go_num, by rw [List.range_succ]; exact hJ3, hb1'', hb2''⟩
        case measure => simp [intOf]; omega
      · gi_wp2
        refine bodyPost_ret (results_none rfl _ _ _) rfl ?_
        exact ⟨⟨_, rfl⟩, .inr ⟨_, ⟨k + 1, by omega, List.range_succ.symm⟩, hJx3⟩⟩
    · have hkR : k = R := by omega
      have hPn : P = n := by rw [HP.out, hkR, HR.out]
      have j0 : ¬ (P : Int) < (n : Int) := by omega
      gi_wp2
      go_end0
      exact ⟨⟨_, rfl⟩, .inl (hkR ▸ hJs)⟩

set_option maxHeartbeats 1000000 in
/-- Of no bytes: no round. -/
theorem chunkB0_in (m : Nat) (l B : Nat) (A : Option Addr) (c : Nat) (J : List Nat → World → Prop)
    (W : World) (h1 : Blk W B 22 #[.slice A 0 c]) (h0 : J [] W) :
    CallsIn Fence.wide m Try.prog 27 #[.func (.yield l) #[] #[], .pointer (some ⟨B, 0, none⟩), .pointer (some ⟨B + 1, 0, none⟩)] W fun e W' => (∃ v, e = .returned v) ∧ J [] W' := by
  refine callsIn_of_wp Try.func27 rfl trivial ?_ rfl
  simp only [Try.ntmps27, List.size_toArray, List.length_cons, List.length_nil, Nat.reduceAdd, Nat.reduceSub, Array.replicate_succ, Array.replicate_zero, List.push_toArray, List.append_toArray, List.nil_append, List.cons_append]
  have c1 := h1.cell 0
  simp only [List.getElem?_toArray, List.getElem?_cons_zero] at c1
  gi_wp2
  gi_loopw [4] (fun i wr => i = .int .i64 0 ∧ J [] wr ∧ Blk wr B 22 #[.slice A 0 c]) (fun _ _ => 0)
  case atStart => exact ⟨rfl, h0, h1⟩
  case round =>
    obtain ⟨rfl, hJs, hb⟩ := hrel
    have c1 := hb.cell 0
    simp only [List.getElem?_toArray, List.getElem?_cons_zero] at c1
    gi_wp2
    go_end0
    exact ⟨⟨_, rfl⟩, hJs⟩

/-- Where row j of the slice lies. -/
def rowOf (A : Option Addr) (wd j : Nat) : Value := .slice (A.map fun a => ⟨a.block, a.off + j * wd, none⟩) wd wd

/-- What Chunk hands back tells the rows, each by a number that may be. -/
theorem chunkB_stops (m : Nat) (hm : 1 ≤ m) (B : Nat) (A : Option Addr) (n c wd R : Nat) (hA : 0 < n → ∃ b o, A = some ⟨b, o, none⟩) (hwd : 1 ≤ wd) (hR : R * wd = n) (hnc : n ≤ c) (hn : n ≤ 4194304) (w : World)
    (h1 : Blk w B 22 #[.slice A n c]) (h2 : Blk w (B + 1) 3 #[.int .i64 wd]) :
    SeqStopsK Fence.wide m Try.prog 27 #[.pointer (some ⟨B, 0, none⟩), .pointer (some ⟨B + 1, 0, none⟩)] (fun j : Fin R => #[rowOf A wd j.val]) (BoxesAt B) (fun ys => ys.map Fin.val = List.range R)
      (fun pre => ∃ k, k ≤ R ∧ pre.map Fin.val = List.range k) R w := fun l J Jx W hW hJ _ hY h0 => by
  have g1 : Blk W B 22 #[.slice A n c] := (hW.block B h1.lt).trans h1
  have g2 : Blk W (B + 1) 3 #[.int .i64 wd] := (hW.block (B + 1) h2.lt).trans h2
  rcases Nat.eq_zero_or_pos n with h | h
  · subst h
    have hR0 : R = 0 := by
      rcases Nat.eq_zero_or_pos R with h3 | h3
      · exact h3
      · have := Nat.mul_pos h3 hwd; omega
    subst hR0
    exact (chunkB0_in m l B A c (fun s V => s = [] ∧ J [] V) W g1 ⟨rfl, h0⟩).mono fun e W' ⟨he, _, hj⟩ => ⟨he, .inl ⟨[], rfl, hj⟩⟩
  · obtain ⟨b, o, rfl⟩ := hA h
    refine (chunkB1_in m hm l B b o n c wd R hwd hR hnc hn (fun s V => ∃ s' : List (Fin R), s'.map Fin.val = s ∧ J s' V) (fun s V => ∃ s' : List (Fin R), s'.map Fin.val = s ∧ Jx s' V)
      (fun s V ⟨s', e, hs⟩ => ⟨s', e, hJ s' V V.drew none hs ⟨rfl, rfl, rfl, Nat.le_refl _, fun _ _ _ => rfl⟩ (fun r e => by cases e)⟩) (fun x V ⟨s', e, hs⟩ hx => ?_) W g1 g2 ⟨[], rfl, h0⟩).mono fun e W' ⟨he, hj⟩ => ⟨he, ?_⟩
    · have hl : s'.length < R := by
        have := congrArg List.length e
        rw [List.length_map, List.length_range] at this
        omega
      obtain ⟨fn, tmps, assign, body, hy, hR⟩ := hY s' ⟨x, hx⟩ V hs hl
      refine ⟨fn, tmps, assign, body, hy, hR.mono fun e2 W2 h => ?_⟩
      rcases h with ⟨a1, a2, a3⟩ | ⟨a1, a2⟩
      · exact .inl ⟨a1, ⟨_, by rw [List.map_append, e]; rfl, a2⟩, a3⟩
      · exact .inr ⟨a1, _, by rw [List.map_append, e]; rfl, a2⟩
    · rcases hj with ⟨ys, e, s', e2, hs⟩ | ⟨pre, ⟨k, hk, e⟩, s', e2, hs⟩
      · exact .inl ⟨s', e2.trans e, hs⟩
      · exact .inr ⟨s', ⟨k, hk, e2.trans e⟩, hs⟩

end Go.Proofs.Ytcogdehpodfkpaa
