/- slices.Chunk over a list of numbers of 32 bits, and the iterator that it makes. -/
import Derived.RangeFuncNested
import Derived.RangeFuncBound
import Derived.RangeFuncCalls
import Derived.RangeFuncLeaves
import Derived.Shelf.Abstract
import Derived.Shelf.RegionOpen
import Derived.WalkKit
import Derived.OwnWalkIn
import Derived.TacticsInMore
import Derived.LoopNIn
import Derived.LoopIn
import Derived.Lib.MinMax
import Derived.Test.YtlnhpdikdefgoaaKit
namespace Go.Proofs.Ytlnhpdikdefgoaa
open Go.RowKit Go.Shelf
set_option maxRecDepth 100000

attribute [local go_sem] Oper.semAt_some

/-- The j-th part of 64 of the slice. -/
def chunkAt (A : Option Addr) (n j : Nat) : Value := .slice (A.map fun a => ⟨a.block, a.off + 64 * j, none⟩) (min 64 (n - 64 * j)) (min 64 (n - 64 * j))
def chunks (n : Nat) : Nat := (n + 63) / 64
/-- What a round keeps: the two boxes of the iterator. -/
def BoxesAt (B : Nat) (W W' : World) : Prop := W'.heap[B]? = W.heap[B]? ∧ W'.heap[B + 1]? = W.heap[B + 1]?

set_option maxHeartbeats 1000000 in
theorem chunk_any (A : Option Addr) (n c : Nat) (w : World) :
    Calls Try.prog 24 #[.slice A n c, .int .i64 64] w fun e w' => e = .returned (.func (.func 41) #[] #[.pointer (some ⟨w.heap.size, 0, none⟩), .pointer (some ⟨w.heap.size + 1, 0, none⟩)]) ∧
      w' = (w.alloc (.cells #[.slice A n c] 22)).alloc (.cells #[.int .i64 64] 3) := by
  go_enter Try.func24, Try.ntmps24
  go_wp2
  go_ret
  exact ⟨rfl, rfl⟩

set_option maxHeartbeats 2000000 in
/-- The iterator. -/
theorem chunk1_in (m : Nat) (hm : 1 ≤ m) (l B b o n c : Nat) (hnc : n ≤ c) (hn : n ≤ 1048576) (J Jx : List Nat → World → Prop) (hJ : ∀ s V, J s V → J s V.drew)
    (hY : ∀ pre x W, J pre W → pre.length < chunks n → YieldAt Fence.wide (m - 1) Try.prog l #[chunkAt (some ⟨b, o, none⟩) n x] W fun e W' =>
      (e = .returned (.bool true) ∧ J (pre ++ [x]) W' ∧ BoxesAt B W W') ∨ (e = .returned (.bool false) ∧ Jx (pre ++ [x]) W'))
    (W : World) (h1 : Blk W B 22 #[.slice (some ⟨b, o, none⟩) n c]) (h2 : Blk W (B + 1) 3 #[.int .i64 64]) (h0 : J [] W) :
    CallsIn Fence.wide m Try.prog 41 #[.func (.yield l) #[] #[], .pointer (some ⟨B, 0, none⟩), .pointer (some ⟨B + 1, 0, none⟩)] W fun e W' => (∃ v, e = .returned v) ∧
      ((∃ ys, ys = List.range (chunks n) ∧ J ys W') ∨ (∃ pre, (∃ k, k ≤ chunks n ∧ pre = List.range k) ∧ Jx pre W')) := by
  have n0 : (n : Int) ≤ 1048576 := by omega
  have n1 : (n : Int) ≤ (c : Int) := by omega
  refine callsIn_of_wp Try.func41 rfl trivial ?_ rfl
  simp only [Try.ntmps41, List.size_toArray, List.length_cons, List.length_nil, Nat.reduceAdd, Nat.reduceSub, Array.replicate_succ, Array.replicate_zero, List.push_toArray, List.append_toArray, List.nil_append, List.cons_append]
  gi_wp2
  gi_loopw [4] (fun i wr => ∃ k : Nat, 64 * k < n + 64 ∧ i = .int .i64 ((64 * k : Nat) : Int) ∧ J (List.range k) wr ∧ Blk wr B 22 #[.slice (some ⟨b, o, none⟩) n c] ∧ Blk wr (B + 1) 3 #[.int .i64 64])
    (fun i _ => n + 64 - (intOf i).toNat)
  case atStart => exact ⟨0, by omega, rfl, h0, h1, h2⟩
  case round =>
    obtain ⟨k, hk, rfl, hJs, hb1, hb2⟩ := hrel
    have c1 := hb1.cell 0
    have c2 := hb2.cell 0
    simp only [List.getElem?_toArray, List.getElem?_cons_zero] at c1 c2
    by_cases hlt : 64 * k < n
    · obtain ⟨fn, tmps, assign, body, hy, hR⟩ := hY _ k wr.drew (hJ _ _ hJs) (by rw [List.length_range]; unfold chunks; omega)
      obtain ⟨m', hm'⟩ : ∃ m', m' = min 64 (n - 64 * k) := ⟨_, rfl⟩
      simp only [chunkAt, Option.map_some, ← hm'] at hy
      have j0 : ((64 * k : Nat) : Int) < (n : Int) := by omega
      have HM := Lib.hid hm'
      have hmin : min (64 : Int) ((n - 64 * k : Nat) : Int) = (m' : Int) := by omega
      have hb1' := hb1.drew
      have hb2' := hb2.drew
      have c1' : wr.drew.cell? ⟨B, 0, none⟩ = some (.slice (some ⟨b, o, none⟩) n c) := c1
      have c2' : wr.drew.cell? ⟨B + 1, 0, none⟩ = some (.int .i64 64) := c2
      have jm : 64 * k + m' ≤ n := by omega
      have jm' : ((64 * k : Nat) : Int) + (m' : Int) ≤ (n : Int) := by omega
      clear hm'
      gi_wp2
      gi_region
      have jt : ((64 * k : Nat) : Int) + (m' : Int) = ((64 * k + m' : Nat) : Int) := by omega
      have jd : 64 * k + m' - 64 * k = m' := by omega
      gi_wp2
      refine hR.mono ?_
      rintro e W3 (⟨rfl, hJ3, hk3⟩ | ⟨rfl, hJx3⟩)
      · have hb1'' : Blk W3 B 22 #[.slice (some ⟨b, o, none⟩) n c] := hk3.1.trans hb1'
        have hb2'' : Blk W3 (B + 1) 3 #[.int .i64 64] := hk3.2.trans hb2'
        have c2'' := hb2''.cell 0
        simp only [List.getElem?_toArray, List.getElem?_cons_zero] at c2''
        gi_wp2
        go_roundw
        case rel => exact ⟨k + 1, by omega, by go_num, by rw [List.range_succ]; exact hJ3, hb1'', hb2''⟩
        case measure => simp [intOf]; omega
      · gi_wp2
        refine bodyPost_ret (results_none rfl _ _ _) rfl ?_
        exact ⟨⟨_, rfl⟩, .inr ⟨_, ⟨k + 1, by unfold chunks; omega, List.range_succ.symm⟩, hJx3⟩⟩
    · have j0 : ¬ ((64 * k : Nat) : Int) < (n : Int) := by omega
      gi_wp2
      go_end0
      exact ⟨⟨_, rfl⟩, .inl (by rw [show chunks n = k from by unfold chunks; omega]; exact hJs)⟩

set_option maxHeartbeats 1000000 in
/-- Of no numbers: no round. -/
theorem chunk0_in (m : Nat) (l B : Nat) (A : Option Addr) (c : Nat) (J : List Nat → World → Prop)
    (W : World) (h1 : Blk W B 22 #[.slice A 0 c]) (h0 : J [] W) :
    CallsIn Fence.wide m Try.prog 41 #[.func (.yield l) #[] #[], .pointer (some ⟨B, 0, none⟩), .pointer (some ⟨B + 1, 0, none⟩)] W fun e W' => (∃ v, e = .returned v) ∧ J [] W' := by
  refine callsIn_of_wp Try.func41 rfl trivial ?_ rfl
  simp only [Try.ntmps41, List.size_toArray, List.length_cons, List.length_nil, Nat.reduceAdd, Nat.reduceSub, Array.replicate_succ, Array.replicate_zero, List.push_toArray, List.append_toArray, List.nil_append, List.cons_append]
  have c1 := h1.cell 0
  simp only [List.getElem?_toArray, List.getElem?_cons_zero] at c1
  gi_wp2
  gi_loopw [4] (fun i wr => i = .int .i64 0 ∧ J [] wr ∧ Blk wr B 22 #[.slice A 0 c]) (fun _ _ => 0)
  case atStart => exact ⟨rfl, h0, h1⟩
  case round =>
    obtain ⟨rfl, hJs, hb⟩ := hrel
    have c1 := hb.cell 0
    simp only [List.getElem?_toArray, List.getElem?_cons_zero] at c1
    gi_wp2
    go_end0
    exact ⟨⟨_, rfl⟩, hJs⟩

/-- What Chunk hands back tells the parts of the slice, one behind the other; or the first ones of them. -/
theorem chunk_stops (m : Nat) (hm : 1 ≤ m) (B : Nat) (A : Option Addr) (n c : Nat) (hA : 0 < n → ∃ b o, A = some ⟨b, o, none⟩) (hnc : n ≤ c) (hn : n ≤ 1048576) (w : World)
    (h1 : Blk w B 22 #[.slice A n c]) (h2 : Blk w (B + 1) 3 #[.int .i64 64]) :
    SeqStopsK Fence.wide m Try.prog 41 #[.pointer (some ⟨B, 0, none⟩), .pointer (some ⟨B + 1, 0, none⟩)] (fun j : Nat => #[chunkAt A n j]) (BoxesAt B) (fun ys => ys = List.range (chunks n))
      (fun pre => ∃ k, k ≤ chunks n ∧ pre = List.range k) (chunks n) w := fun l J Jx W hW hJ _ hY h0 => by
  have g1 : Blk W B 22 #[.slice A n c] := (hW.block B h1.lt).trans h1
  have g2 : Blk W (B + 1) 3 #[.int .i64 64] := (hW.block (B + 1) h2.lt).trans h2
  rcases Nat.eq_zero_or_pos n with h | h
  · subst h
    exact (chunk0_in m l B A c J W g1 h0).mono fun e W' ⟨he, hj⟩ => ⟨he, .inl ⟨_, rfl, hj⟩⟩
  · obtain ⟨b, o, rfl⟩ := hA h
    exact chunk1_in m hm l B b o n c hnc hn J Jx (fun s V hs => hJ s V V.drew none hs ⟨rfl, rfl, rfl, Nat.le_refl _, fun _ _ _ => rfl⟩ (fun r e => by cases e)) hY W g1 g2 h0

end Go.Proofs.Ytlnhpdikdefgoaa
