/- The contracts of num.Writer, Fold, Unfold. -/
import Derived.Test.YtbbkdgbgfncjaaaNumMath
import Derived.Test.YtbbkdgbgfncjaaaTexts
import Derived.BigRegion
import Derived.Laws.BitsAllLaws
import Derived.Lib.MinMax
namespace Go.Proofs.Ytbbkdgbgfncjaaa
open Go.RowKit

theorem Try.infoByteN : (Try.prog.info? 5).map (fun i => (i.zero, i.size, i.bytes)) = some (some (.int .u8 0), 1, 1) := by kernel_rfl



/-- How many bytes a number has, if n are asked for. -/
def wid (n : Int) : Nat := (min (max n 0) 8).toNat
theorem wid_le (n : Int) : wid n ≤ 8 := by unfold wid; omega


/-- A writer at block g (of any type: it may be embedded there): its bytes bs, owned by v. -/
structure NW (w : World) (g : Nat) (v : Value) (bs : List Int) : Prop where
  blk : ∃ t, 5 ≠ t ∧ Blk w g t #[v]
  own : Own w 5 .u8 v bs

/-- What a writer's call may turn. -/
def NFoot (g : Nat) (v : Value) (k : Nat) : Prop := k = g ∨ v.ownBlock = some k

/-- What a call of a writer leaves. -/
def NPost (w w' : World) (g : Nat) (v : Value) (bs' : List Int) : Prop :=
  ∃ v', NW w' g v' bs' ∧ (∀ k, v'.ownBlock = some k → v.ownBlock = some k ∨ w.heap.size ≤ k) ∧ Kept (NFoot g v) w w'

theorem NW.lt {w : World} {g : Nat} {v : Value} {bs : List Int} (h : NW w g v bs) : ∀ k, NFoot g v k → k < w.heap.size := by
  rintro k (rfl | hk)
  · obtain ⟨_, _, hb⟩ := h.blk; exact hb.lt
  · exact h.own.lt hk
theorem NW.kept {S : Nat → Prop} {w w' : World} {g : Nat} {v : Value} {bs : List Int} (h : NW w g v bs) (hk : Kept S w w') (hn : ∀ k, NFoot g v k → ¬ S k) : NW w' g v bs :=
  ⟨let ⟨t, ht, hb⟩ := h.blk; ⟨t, ht, hb.kept hk (hn g (.inl rfl))⟩, h.own.kept hk (fun k e => hn k (.inr e))⟩
theorem NW.new (w : World) : NW (w.alloc (.cells #[.slice none 0 0] 39)) w.heap.size (.slice none 0 0) [] := ⟨⟨_, by decide, Blk.new _ _ _⟩, Own.nil _ _ _⟩
/-- A writer that is embedded in a block of type t. -/
theorem NW.at_ (w : World) (t : TypeId) (ht : 5 ≠ t) : NW (w.alloc (.cells #[.slice none 0 0] t)) w.heap.size (.slice none 0 0) [] := ⟨⟨_, ht, Blk.new _ _ _⟩, Own.nil _ _ _⟩

theorem NPost.trans {w w1 w2 : World} {g : Nat} {v v1 : Value} {bs2 : List Int} (hv : ∀ k, v1.ownBlock = some k → v.ownBlock = some k ∨ w.heap.size ≤ k) (hk : Kept (NFoot g v) w w1)
    (h : NPost w1 w2 g v1 bs2) : NPost w w2 g v bs2 := by
  obtain ⟨v2, h2, hv2, hk2⟩ := h
  refine ⟨v2, h2, fun k hk' => ?_, hk.trans hk2 fun i hi hf => ?_⟩
  · rcases hv2 k hk' with e | e
    · exact hv k e
    · exact .inr (Nat.le_trans hk.size e)
  · rcases hf with rfl | hf
    · exact .inl rfl
    · rcases hv i hf with e | e
      · exact .inr e
      · omega
theorem NPost.refl {w : World} {g : Nat} {v : Value} {bs : List Int} (h : NW w g v bs) : NPost w w g v bs := ⟨v, h, fun _ hk => .inl hk, Kept.refl _ _⟩
theorem NPost.mid {w w1 : World} {g : Nat} {v : Value} {bs1 : List Int} (h : NPost w w1 g v bs1) : ∃ v1, NW w1 g v1 bs1 ∧ ∀ w2 bs2, NPost w1 w2 g v1 bs2 → NPost w w2 g v bs2 := by
  obtain ⟨v1, h1, hv, hk⟩ := h
  exact ⟨v1, h1, fun w2 bs2 h2 => NPost.trans hv hk h2⟩
/-- Ahead of a call, new memory was made. -/
theorem NPost.after {w w1 w2 : World} {g : Nat} {v : Value} {bs : List Int} (hf : Fresh w w1) (h : NPost w1 w2 g v bs) : NPost w w2 g v bs := by
  obtain ⟨v2, h2, hv2, hk2⟩ := h
  refine ⟨v2, h2, fun k hk => (hv2 k hk).imp id (fun e => Nat.le_trans hf.size e), ?_⟩
  exact Kept.trans (hf.mono (T := NFoot g v) fun _ _ h => h.elim) hk2 fun _ _ h => h

set_option maxHeartbeats 1600000 in
theorem nRaw_any (g : Nat) (v : Value) (bs : List Int) (P : Option Addr) (m c : Nat) (L : List (List Int)) (w : World) (h : NW w g v bs) (hp : Parts w P m L (NFoot g v)) (hm : m ≤ 4611686018427387904) (hl : bs.length + L.flatten.length ≤ 140737488355328) :
    Calls Try.prog 23 #[.pointer (some ⟨g, 0, none⟩), .slice P m c] w fun e w' => e = .returned (.tuple #[]) ∧ NPost w w' g v (bs ++ L.flatten) := by
  have Hlen := Lib.hid hp.len
  obtain ⟨i0, hi, hz0, hz1, hz2⟩ := info_parts Try.infoByteN
  go_enter Try.func23, Try.ntmps23
  go_wp2_with fail
  go_loopw [10] (fun i wr => ∃ j : Nat, j ≤ m ∧ i = .int .i64 j ∧ NPost w wr g v (bs ++ (L.take j).flatten)) (fun i _ => (m - intOf i).toNat)
  case atStart => exact ⟨0, by omega, by simp, by simpa using NPost.refl h⟩
  case round =>
    obtain ⟨j, hj, rfl, hn⟩ := hrel
    by_cases hlt : j < m
    · obtain ⟨v1, hw1, hv1, hk1⟩ := hn
      obtain ⟨b, o, A, n, cA, rfl, hb, hfb, hc', hr', hA⟩ := hp.at_ j hlt
      have hc := (hk1.cell (p := ⟨b, o + j, none⟩) hb hfb).trans hc'
      have hr := hr'.kept hk1 hA
      have hlj := flat_le (L := L) (j := j) (by rw [Hlen.out]; exact hlt)
      have hft := flat_take (L := L) (j := j) (by rw [Hlen.out]; exact hlt)
      have Hft := Lib.hid hft
      have hlr := hr.len
      have hbd : (bs ++ (L.take j).flatten).length + n ≤ 140737488355328 := by rw [List.length_append, ← hlr]; omega
      obtain ⟨tb, htb, hblk⟩ := hw1.blk
      have c0 := hblk.cell 0
      have f0 := hblk.frozen 0
      simp at c0
      have Hbd := Lib.hid hbd
      clear hc' hr' hft hlr hlj hbd
      go_wp2_with (at_builtin; refine wpList_app _ rfl (.tmp 18) (.tmp 19) 22 rfl 5 i0 .u8 1 Try.underlying22 hi hz0 hz1 hz2 _ _ rfl hw1.own A n cA _ rfl hr (by unfold maxLen; have := Hbd.out; omega) (by have := Hbd.out; omega) ?_)
      intro v2 w2 ho2 hg2 hat2
      have hne := hw1.own.ne_blk hblk htb
      have hb2 : Blk w2 g tb #[v1] := hblk.grown hg2 (fun e => hne e.symm)
      have hne2 : v2.ownBlock ≠ some g := by
        rcases hat2 with e | e
        · rw [e]; exact hne
        · rw [e]; intro e'; injection e' with e'; have := hblk.lt; omega
      have k0 := hb2.cell 0
      have l0 := hb2.frozen 0
      simp at k0
      have hk2 : Kept (NFoot g v1) wr (w2.setCell ⟨g, 0, none⟩ v2) := ((Kept.refl _ _).grown hg2 (fun k e _ => .inr e)).setCell (fun _ => .inl rfl) _
      have hp2 : NPost w (w2.setCell ⟨g, 0, none⟩ v2) g v (bs ++ (L.take (j + 1)).flatten) := by
        refine NPost.trans hv1 hk1 ⟨v2, ⟨⟨tb, htb, by simpa using hb2.set_ 0 v2⟩, ?_⟩, fun k hk => ?_, hk2⟩
        · rw [Hft.out, List.getD_eq_getElem?_getD]
          exact Own.setFar ho2 hne2 _
        · rcases hat2 with e | e
          · rw [e] at hk; exact .inl hk
          · rw [e] at hk; injection hk with hk; exact .inr (by omega)
      obtain ⟨A2, n2, c2, rfl⟩ : ∃ A n c, v2 = .slice A n c := by obtain ⟨A, c, e, _⟩ := ho2.row; exact ⟨A, _, c, e⟩
      have Hp2 := Lib.hid hp2
      clear hp2 hk2 ho2 hg2 hat2 hne hne2 hb2
      go_wp2_with fail
      go_roundw
      case rel => exact ⟨j + 1, by omega, by go_num, Hp2.out⟩
      case measure => simp [intOf]; omega
    · go_wp2_with fail
      obtain rfl : j = m := by omega
      go_end0
      rw [List.take_of_length_le (by rw [Hlen.out]; omega)] at hn
      exact ⟨rfl, hn⟩

set_option maxHeartbeats 400000 in
theorem nRaw_nil (P : Value) (w : World) : Calls Try.prog 23 #[.pointer none, P] w fun e w' => e = .returned (.tuple #[]) ∧ w = w' := by
  go_enter Try.func23, Try.ntmps23
  go_wp2
  refine bodyPost_ret (results_none rfl _ _ _) rfl ?_
  exact ⟨rfl, rfl⟩

/-- Num by sevens: what is left to do is one Raw of its bytes, which are new. -/
def LastRaw (r : Value) (xs : List Int) (w : World) (Q : World → Prop) : Prop :=
  ∀ P w2, Fresh w w2 → Parts w2 P 1 [xs] (fun b => b < w.heap.size) → Calls Try.prog 23 #[r, .slice P 1 1] w2 fun e w' => e = .returned (.tuple #[]) ∧ Q w'

theorem LastRaw.nil (xs : List Int) (w : World) : LastRaw (.pointer none) xs w (fun w' => Fresh w w') := fun P w2 hf _ =>
  (nRaw_nil _ w2).mono fun e w' ⟨he, hw⟩ => ⟨he, by rw [← hw]; exact hf⟩

theorem LastRaw.any (xs : List Int) (w : World) (g : Nat) (v : Value) (bs : List Int) (h : NW w g v bs) (hl : bs.length + xs.length ≤ 140737488355328) : LastRaw (.pointer (some ⟨g, 0, none⟩)) xs w (fun w' => NPost w w' g v (bs ++ xs)) := by
  intro P w2 hf hp
  have hp' : Parts w2 P 1 [xs] (NFoot g v) := ⟨hp.len, fun j hj => by
    obtain ⟨b, o, A, n, c, e, hb, hfb, hc, hr, hA⟩ := hp.at_ j hj
    exact ⟨b, o, A, n, c, e, hb, fun hh => hfb (h.lt _ hh), hc, hr, fun b' o' e' hn hh => hA b' o' e' hn (h.lt _ hh)⟩⟩
  refine (nRaw_any g v bs P 1 1 [xs] w2 (h.kept hf (fun _ _ => id)) hp' (by omega) (by simpa using hl)).mono ?_
  rintro e w' ⟨rfl, hn⟩
  exact ⟨rfl, by simpa using NPost.after hf hn⟩

/-- A slice of an array from its first place on. -/
theorem run_array_to {P : Program} (t e : TypeId) (N : Nat) (ht : P.underlying t = some (.array N e)) (hc : ∀ w, (sizeOf e).run P w = .ok 1 w) (a : Addr) (h : Nat) (k : Int) (hk : k = h) (hN : h ≤ N) (W : World) :
    (Instr.sliceAt t (.pointer (some a)) none (some (.int .i64 k)) none).run P W = .ok (.slice (some a) h N) W := by
  subst hk
  have hl : P.arrayLen t = N := by simp [Program.arrayLen, ht]
  have he : P.elem t = e := by simp [Program.elem, ht]
  rw [run_sliceAt_array_h W t a (by rw [hl, he]; exact ht) .i64 (h : Int) (by omega) (by rw [hl]; omega), he, hl, hc]
  simp [Result.andThen, slicedAt]
  intro e0
  simp [Addr.add]

theorem byte_size (w : World) : (sizeOf 5).run Try.prog w = .ok 1 w := by
  obtain ⟨i0, hi, _, hz1, _⟩ := info_parts Try.infoByteN
  simp [sizeOf, typeInfo, hi, hz1]

/-- The cells of a block, one more of them set. -/
theorem set_all {cs : Array Value} {k : Nat} {f : Nat → Value} {u : Value} (hk : k < cs.size) (h : ∀ i, i < k → cs[i]? = some (f i)) (hu : u = f k) : ∀ i, i < k + 1 → (cs.setIfInBounds k u)[i]? = some (f i) := by
  intro i hi
  by_cases e : i = k
  · subst e; subst hu; simp [hk]
  · rw [Array.getElem?_setIfInBounds_ne (by omega)]; exact h i (by omega)

/-- A block's first cells, as a row. -/
theorem Row.of_blk {w : World} {q : Nat} {t : TypeId} {cs : Array Value} {k : IntKind} {xs : List Int} (hb : Blk w q t cs) (h : ∀ i, i < xs.length → cs[i]? = some (.int k (xs.getD i 0))) : Row w k (some ⟨q, 0, none⟩) xs.length xs :=
  ⟨rfl, fun j hj => ⟨q, 0, rfl, hb.lt, by rw [Nat.zero_add, hb.cell j]; exact h j hj⟩⟩

theorem sev_byte (x : Nat) (hx : x < 18446744073709551616) : bits .or .u8 (bits .and .u64 (x : Int) 127 % 256) 128 = ((x % 128 + 128 : Nat) : Int) := by
  rw [show (127 : Int) = ((127 : Nat) : Int) from rfl, u64_and_nat _ _ hx (by omega), nat_mask7, show (((x % 128 : Nat) : Int) % 256) = ((x % 128 : Nat) : Int) from by omega, show (128 : Int) = ((128 : Nat) : Int) from rfl, u8_or_nat _ _ (by omega) (by omega), Nat.or_comm, nat_join 7 128 (x % 128) (by decide) (by omega), Nat.add_comm]

set_option maxRecDepth 100000 in
set_option maxHeartbeats 1600000 in
theorem nNum_raw (r : Value) (v : Nat) (w : World) (Q : World → Prop) (hv : v < 18446744073709551616) (h : LastRaw r (sv v) w Q) :
    Calls Try.prog 22 #[r, .int .u64 v] w fun e w' => e = .returned (.tuple #[]) ∧ Q w' := by
  have hsz1 := byte_size
  go_enter Try.func22, Try.ntmps22
  go_wp2_with fail
  have hb0 := Blk.new w 52 #[.int .u8 0, .int .u8 0, .int .u8 0, .int .u8 0, .int .u8 0, .int .u8 0, .int .u8 0, .int .u8 0, .int .u8 0, .int .u8 0]
  have hk0 : Fresh w (w.alloc (.cells #[.int .u8 0, .int .u8 0, .int .u8 0, .int .u8 0, .int .u8 0, .int .u8 0, .int .u8 0, .int .u8 0, .int .u8 0, .int .u8 0] 52)) := (Kept.refl _ _).alloc _
  generalize w.alloc (.cells #[.int .u8 0, .int .u8 0, .int .u8 0, .int .u8 0, .int .u8 0, .int .u8 0, .int .u8 0, .int .u8 0, .int .u8 0, .int .u8 0] 52) = w0 at *
  obtain ⟨q, hQ⟩ : ∃ q, q = w.heap.size := ⟨_, rfl⟩
  rw [← hQ] at hb0 ⊢
  have hq : w.heap.size ≤ q := by omega
  clear hQ
  go_loopw [1, 5] (fun x l wr => ∃ k : Nat, k ≤ 9 ∧ l = .int .i64 k ∧ x = .int .u64 (v / 128 ^ k : Nat) ∧ (k = 0 ∨ 128 ^ k ≤ v) ∧ Fresh w wr ∧ ∃ cs, Blk wr q 52 cs ∧ cs.size = 10 ∧ ∀ i, i < k → cs[i]? = some (.int .u8 ((sv v).getD i 0))) (fun x _ _ => (intOf x).toNat)
  case atStart => exact ⟨0, by omega, rfl, by simp, .inl rfl, hk0, _, hb0, rfl, fun i hi => by omega⟩
  case round =>
    obtain ⟨k, hk, rfl, rfl, hpos, hkr, cs, hb, hsz, hall⟩ := hrel
    have hx : v / 128 ^ k < 18446744073709551616 := Nat.lt_of_le_of_lt (Nat.div_le_self _ _) hv
    have hat := sv_at v k
    rw [if_pos (by omega)] at hat
    obtain ⟨u, hu⟩ : ∃ u, wr.cell? ⟨q, k, none⟩ = some u := by
      rw [hb.cell k]
      exact ⟨_, Array.getElem?_eq_getElem (by omega)⟩
    have hfr := hb.frozen k
    have hbyte := sev_byte (v / 128 ^ k) hx
    have hstep : v / 128 ^ (k + 1) = v / 128 ^ k / 128 := by rw [Nat.pow_succ, Nat.div_div_eq_div_mul]
    have h10 : ¬ v / 128 ^ k < 128 → k < 9 := by
      intro hlt
      by_cases e : k = 9
      · subst e; simp at hlt; omega
      · omega
    have Hall := Lib.hid hall
    have Hat := Lib.hid hat
    have Hbyte := Lib.hid hbyte
    have Hstep := Lib.hid hstep
    have Hpos := Lib.hid hpos
    have Hsz := Lib.hid hsz
    have H10 := Lib.hid h10
    clear hall hat hbyte hstep hpos hsz h10
    generalize hX : v / 128 ^ k = X at *
    have HX := Lib.hid hX
    clear hX
    by_cases hlt : X < 128
    · have hsl : ∀ W, (Instr.sliceAt 52 (.pointer (some ⟨q, 0, none⟩)) none (some (.int .i64 ((k : Int) + 1))) none).run Try.prog W = .ok (.slice (some ⟨q, 0, none⟩) (k + 1) 10) W := fun W =>
        run_array_to _ 5 10 Try.underlying52 hsz1 _ _ _ (by omega) (by omega) W
      have hcs := set_all (u := .int .u8 (X : Int)) (f := fun i => .int .u8 ((sv v).getD i 0)) (by rw [Hsz.out]; omega) Hall.out (by
        have := Hat.out
        rw [if_pos hlt] at this
        simp [List.getD, this])
      have hlen : (sv v).length = k + 1 := sv_length v k (by rw [HX.out]; exact hlt) Hpos.out
      have hrow := Row.of_blk (xs := sv v) (hb.set_ k (.int .u8 (X : Int))) (by rw [hlen]; exact hcs)
      rw [hlen] at hrow
      have hk1 : Fresh w (wr.setCell ⟨q, k, none⟩ (.int .u8 (X : Int))) := hkr.setCell (p := ⟨q, k, none⟩) (fun h => by simp at h; omega) _
      have hp := Parts.one (c := 10) (t := 22) (F := fun b => b < w.heap.size) hrow (fun b o e _ => by injection e with e; injection e with e; simp; omega) (by have := hk1.size; simp at this ⊢; omega)
      have hz : (wr.setCell ⟨q, k, none⟩ (.int .u8 (X : Int))).heap.size = wr.heap.size := by simp
      rw [hz] at hp
      have Hp := Lib.hid hp
      have Hk1 := Lib.hid hk1
      clear hp hk1 hz hrow hlen hcs
      go_wp2_with fail
      refine (h _ _ (Hk1.out.alloc _) Hp.out).mono ?_
      rintro e w' ⟨rfl, hQ⟩
      have HQ := Lib.hid hQ
      clear hQ
      go_wp2_with fail
      go_end0
      exact ⟨rfl, HQ.out⟩
    · have hk9 := H10.out hlt
      go_wp2_with fail
      go_roundw
      case rel =>
        refine ⟨k + 1, by omega, by go_num, by rw [Hstep.out]; rfl, .inr ?_, hkr.setCell (p := ⟨q, k, none⟩) (fun h => by simp at h; omega) _, _, hb.set_ k _, by simpa using Hsz.out, ?_⟩
        · have := HX.out
          rw [Nat.pow_succ, Nat.mul_comm]
          exact (Nat.le_div_iff_mul_le (Nat.pow_pos (by omega))).1 (by omega)
        · rw [Hbyte.out]
          exact set_all (f := fun i => .int .u8 ((sv v).getD i 0)) (by rw [Hsz.out]; omega) Hall.out (by
            have := Hat.out
            rw [if_neg hlt] at this
            simp [List.getD, this])
      case measure => simp [intOf]; omega


theorem low_byte (v i : Nat) (hv : v < 18446744073709551616) : bits .and .u64 ((v : Int) / 2 ^ (8 * i)) 255 % 256 = ((v / 256 ^ i % 256 : Nat) : Int) := by
  have e : ((v : Int) / 2 ^ (8 * i)) = ((v / 256 ^ i : Nat) : Int) := by rw [show (256 : Nat) = 2 ^ 8 from rfl, ← Nat.pow_mul]; simp
  have hd : v / 256 ^ i < 18446744073709551616 := Nat.lt_of_le_of_lt (Nat.div_le_self _ _) hv
  rw [e, show (255 : Int) = ((255 : Nat) : Int) from rfl, u64_and_nat _ _ hd (by omega), nat_mask8]
  omega




theorem leBytes_len8 (v : Nat) (n : Int) : (leBytes v (wid n)).length ≤ 8 := by rw [leBytes_length]; exact wid_le n
theorem beBytes_len8 (v : Nat) (n : Int) : (beBytes v (wid n)).length ≤ 8 := by rw [beBytes_length]; exact wid_le n

/- Num, Zig, Little, Big of a writer. -/
theorem nNum_any (g : Nat) (v : Value) (bs : List Int) (x : Nat) (w : World) (h : NW w g v bs) (hx : x < 18446744073709551616) (hl : bs.length ≤ 140000000000000) :
    Calls Try.prog 22 #[.pointer (some ⟨g, 0, none⟩), .int .u64 x] w fun e w' => e = .returned (.tuple #[]) ∧ NPost w w' g v (bs ++ sv x) :=
  nNum_raw _ x w _ hx (LastRaw.any _ w g v bs h (by have := sv_le10 x hx; omega))



set_option maxHeartbeats 400000 in
theorem nBytes_nil (w : World) : Calls Try.prog 25 #[.pointer none] w fun e w' => e = .returned (.slice none 0 0) ∧ w = w' := by
  go_enter Try.func25, Try.ntmps25
  go_wp2
  go_ret
  exact ⟨rfl, rfl⟩

set_option maxHeartbeats 800000 in
theorem nBytes_any (g : Nat) (v : Value) (bs : List Int) (w : World) (h : NW w g v bs) (hn : bs.length ≤ 140737488355328) :
    Calls Try.prog 25 #[.pointer (some ⟨g, 0, none⟩)] w fun e w' => ∃ u, e = .returned u ∧ NewRow w w' 5 .u8 u bs := by
  obtain ⟨_, _, hblk⟩ := h.blk
  have c0 := hblk.cell 0
  simp at c0
  obtain ⟨A, c, rfl, hr, _⟩ := h.own.row
  obtain ⟨i0, hi, hz0, hz1, hz2⟩ := info_parts Try.infoByteN
  clear h
  go_enter Try.func25, Try.ntmps25
  go_wp2_with (at_builtin; refine wpList_app _ rfl _ _ 22 rfl 5 i0 .u8 1 Try.underlying22 hi hz0 hz1 hz2 (.slice none 0 0) [] rfl (Own.nil _ _ _) A bs.length c bs rfl hr (by unfold maxLen; simp; omega) (by simp; omega) ?_)
  intro v' w' hown hg hat
  go_wp2
  go_ret
  refine ⟨v', rfl, by simpa using hown, fun k hk => ?_, (Kept.refl _ _).grown hg (fun k e _ => by cases e)⟩
  rcases hat with e | e
  · rw [e] at hk; cases hk
  · rw [e] at hk; injection hk with hk; omega

end Go.Proofs.Ytbbkdgbgfncjaaa
