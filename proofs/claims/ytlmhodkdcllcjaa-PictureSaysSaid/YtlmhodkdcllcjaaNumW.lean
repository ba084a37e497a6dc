/- The contracts of num.Writer, Fold, Unfold. -/
import Derived.Test.YtlmhodkdcllcjaaNumMath
import Derived.Test.YtlmhodkdcllcjaaTexts
import Derived.BigRegion
import Derived.Laws.BitsAllLaws
import Derived.Lib.MinMax
namespace Go.Proofs.Ytlmhodkdcllcjaa
open Go.RowKit

theorem Try.infoByteN : (Try.prog.info? 5).map (fun i => (i.zero, i.size, i.bytes)) = some (some (.int .u8 0), 1, 1) := by kernel_rfl



/-- How many bytes a number has, if n are asked for. -/
def wid (n : Int) : Nat := (min (max n 0) 8).toNat
theorem wid_le (n : Int) : wid n ≤ 8 := by unfold wid; omega

set_option maxHeartbeats 400000 in
theorem nWidth_any (n : Int) (w : World) : Calls Try.prog 46 #[.int .i64 n] w fun e w' => e = .returned (.int .i64 (wid n)) ∧ w = w' := by
  go_enter Try.func46, Try.ntmps46
  go_wp2
  all_goals
    go_ret
    exact ⟨ret_int (by unfold wid; omega), rfl⟩

/-- A writer at block g (of any type: it may be embedded there): its bytes bs, owned by v. -/
structure NW (w : World) (g : Nat) (v : Value) (bs : List Int) : Prop where
  blk : ∃ t, 5 ≠ t ∧ Blk w g t #[v]
  own : Own w 5 .u8 v bs

/-- What a writer's call may turn. -/
def NFoot (g : Nat) (v : Value) (k : Nat) : Prop := k = g ∨ v.ownBlock = some k

/-- What a call of a writer leaves. -/
def NPost (w w' : World) (g : Nat) (v : Value) (bs' : List Int) : Prop :=
  ∃ v', NW w' g v' bs' ∧ (∀ k, v'.ownBlock = some k → v.ownBlock = some k ∨ w.heap.size ≤ k) ∧ Kept (NFoot g v) w w'

theorem NW.lt {w : World} {g : Nat} {v : Value} {bs : List Int} (h : NW w g v bs) : ∀ k, NFoot g v k → k < w.heap.size := by
  rintro k (rfl | hk)
  · obtain ⟨_, _, hb⟩ := h.blk; exact hb.lt
  · exact h.own.lt hk
theorem NW.kept {S : Nat → Prop} {w w' : World} {g : Nat} {v : Value} {bs : List Int} (h : NW w g v bs) (hk : Kept S w w') (hn : ∀ k, NFoot g v k → ¬ S k) : NW w' g v bs :=
  ⟨let ⟨t, ht, hb⟩ := h.blk; ⟨t, ht, hb.kept hk (hn g (.inl rfl))⟩, h.own.kept hk (fun k e => hn k (.inr e))⟩
/-- A writer that is embedded in a block of type t. -/
theorem NW.at_ (w : World) (t : TypeId) (ht : 5 ≠ t) : NW (w.alloc (.cells #[.slice none 0 0] t)) w.heap.size (.slice none 0 0) [] := ⟨⟨_, ht, Blk.new _ _ _⟩, Own.nil _ _ _⟩

theorem NPost.trans {w w1 w2 : World} {g : Nat} {v v1 : Value} {bs2 : List Int} (hv : ∀ k, v1.ownBlock = some k → v.ownBlock = some k ∨ w.heap.size ≤ k) (hk : Kept (NFoot g v) w w1)
    (h : NPost w1 w2 g v1 bs2) : NPost w w2 g v bs2 := by
  obtain ⟨v2, h2, hv2, hk2⟩ := h
  refine ⟨v2, h2, fun k hk' => ?_, hk.trans hk2 fun i hi hf => ?_⟩
  · rcases hv2 k hk' with e | e
    · exact hv k e
    · exact .inr (Nat.le_trans hk.size e)
  · rcases hf with rfl | hf
    · exact .inl rfl
    · rcases hv i hf with e | e
      · exact .inr e
      · omega
theorem NPost.refl {w : World} {g : Nat} {v : Value} {bs : List Int} (h : NW w g v bs) : NPost w w g v bs := ⟨v, h, fun _ hk => .inl hk, Kept.refl _ _⟩
theorem NPost.mid {w w1 : World} {g : Nat} {v : Value} {bs1 : List Int} (h : NPost w w1 g v bs1) : ∃ v1, NW w1 g v1 bs1 ∧ ∀ w2 bs2, NPost w1 w2 g v1 bs2 → NPost w w2 g v bs2 := by
  obtain ⟨v1, h1, hv, hk⟩ := h
  exact ⟨v1, h1, fun w2 bs2 h2 => NPost.trans hv hk h2⟩
/-- Ahead of a call, new memory was made. -/
theorem NPost.after {w w1 w2 : World} {g : Nat} {v : Value} {bs : List Int} (hf : Fresh w w1) (h : NPost w1 w2 g v bs) : NPost w w2 g v bs := by
  obtain ⟨v2, h2, hv2, hk2⟩ := h
  refine ⟨v2, h2, fun k hk => (hv2 k hk).imp id (fun e => Nat.le_trans hf.size e), ?_⟩
  exact Kept.trans (hf.mono (T := NFoot g v) fun _ _ h => h.elim) hk2 fun _ _ h => h






/-- A slice of an array from its first place on. -/
theorem run_array_to {P : Program} (t e : TypeId) (N : Nat) (ht : P.underlying t = some (.array N e)) (hc : ∀ w, (sizeOf e).run P w = .ok 1 w) (a : Addr) (h : Nat) (k : Int) (hk : k = h) (hN : h ≤ N) (W : World) :
    (Instr.sliceAt t (.pointer (some a)) none (some (.int .i64 k)) none).run P W = .ok (.slice (some a) h N) W := by
  subst hk
  have hl : P.arrayLen t = N := by simp [Program.arrayLen, ht]
  have he : P.elem t = e := by simp [Program.elem, ht]
  rw [run_sliceAt_array_h W t a (by rw [hl, he]; exact ht) .i64 (h : Int) (by omega) (by rw [hl]; omega), he, hl, hc]
  simp [Result.andThen, slicedAt]
  intro e0
  simp [Addr.add]

theorem byte_size (w : World) : (sizeOf 5).run Try.prog w = .ok 1 w := by
  obtain ⟨i0, hi, _, hz1, _⟩ := info_parts Try.infoByteN
  simp [sizeOf, typeInfo, hi, hz1]

/-- The cells of a block, one more of them set. -/
theorem set_all {cs : Array Value} {k : Nat} {f : Nat → Value} {u : Value} (hk : k < cs.size) (h : ∀ i, i < k → cs[i]? = some (f i)) (hu : u = f k) : ∀ i, i < k + 1 → (cs.setIfInBounds k u)[i]? = some (f i) := by
  intro i hi
  by_cases e : i = k
  · subst e; subst hu; simp [hk]
  · rw [Array.getElem?_setIfInBounds_ne (by omega)]; exact h i (by omega)

/-- A block's first cells, as a row. -/
theorem Row.of_blk {w : World} {q : Nat} {t : TypeId} {cs : Array Value} {k : IntKind} {xs : List Int} (hb : Blk w q t cs) (h : ∀ i, i < xs.length → cs[i]? = some (.int k (xs.getD i 0))) : Row w k (some ⟨q, 0, none⟩) xs.length xs :=
  ⟨rfl, fun j hj => ⟨q, 0, rfl, hb.lt, by rw [Nat.zero_add, hb.cell j]; exact h j hj⟩⟩

theorem sev_byte (x : Nat) (hx : x < 18446744073709551616) : bits .or .u8 (bits .and .u64 (x : Int) 127 % 256) 128 = ((x % 128 + 128 : Nat) : Int) := by
  rw [show (127 : Int) = ((127 : Nat) : Int) from rfl, u64_and_nat _ _ hx (by omega), nat_mask7, show (((x % 128 : Nat) : Int) % 256) = ((x % 128 : Nat) : Int) from by omega, show (128 : Int) = ((128 : Nat) : Int) from rfl, u8_or_nat _ _ (by omega) (by omega), Nat.or_comm, nat_join 7 128 (x % 128) (by decide) (by omega), Nat.add_comm]



theorem low_byte (v i : Nat) (hv : v < 18446744073709551616) : bits .and .u64 ((v : Int) / 2 ^ (8 * i)) 255 % 256 = ((v / 256 ^ i % 256 : Nat) : Int) := by
  have e : ((v : Int) / 2 ^ (8 * i)) = ((v / 256 ^ i : Nat) : Int) := by rw [show (256 : Nat) = 2 ^ 8 from rfl, ← Nat.pow_mul]; simp
  have hd : v / 256 ^ i < 18446744073709551616 := Nat.lt_of_le_of_lt (Nat.div_le_self _ _) hv
  rw [e, show (255 : Int) = ((255 : Nat) : Int) from rfl, u64_and_nat _ _ hd (by omega), nat_mask8]
  omega




theorem leBytes_len8 (v : Nat) (n : Int) : (leBytes v (wid n)).length ≤ 8 := by rw [leBytes_length]; exact wid_le n
theorem beBytes_len8 (v : Nat) (n : Int) : (beBytes v (wid n)).length ≤ 8 := by rw [beBytes_length]; exact wid_le n

/- Num, Zig, Little, Big of a writer. -/





end Go.Proofs.Ytlmhodkdcllcjaa
