/- The contracts of num.Reader: a reader at the head of a block, also one that is embedded there. -/
import Derived.Test.YtbbkdgbgfncjaaaNumR
import Derived.Test.YtbbkdgbgfncjaaaCut
import Derived.Defers
namespace Go.Proofs.Ytbbkdgbgfncjaaa
open Go.RowKit
set_option maxRecDepth 100000

/-- A reader at the head of block g (of type t; ext: what lies behind it). -/
structure NRd (w : World) (g : Nat) (t : TypeId) (ext : List Value) (A : Option Addr) (c : Nat) (bs : List Int) (p : Nat) (err : Int) : Prop where
  blk : Blk w g t (.slice A bs.length c :: .int .i64 p :: .int .i64 err :: ext).toArray
  row : Row w .u8 A bs.length bs
  ne_ : ∀ b o, A = some ⟨b, o, none⟩ → 0 < bs.length → b ≠ g
  byte : ∀ c ∈ bs, 0 ≤ c ∧ c < 256
  le : p ≤ bs.length
  cap : bs.length ≤ c
  small : bs.length ≤ 140737488355328

section
variable {w w' : World} {g : Nat} {t : TypeId} {ext : List Value} {A : Option Addr} {c : Nat} {bs : List Int} {p : Nat} {err : Int}
theorem NRd.c0 (h : NRd w g t ext A c bs p err) : w.cell? ⟨g, 0, none⟩ = some (.slice A bs.length c) := by rw [h.blk.cell 0]; simp
theorem NRd.c1 (h : NRd w g t ext A c bs p err) : w.cell? ⟨g, 1, none⟩ = some (.int .i64 p) := by rw [h.blk.cell 1]; simp
theorem NRd.c2 (h : NRd w g t ext A c bs p err) : w.cell? ⟨g, 2, none⟩ = some (.int .i64 err) := by rw [h.blk.cell 2]; simp
theorem NRd.drewN (h : NRd w g t ext A c bs p err) (n : Nat) : NRd (w.drewN n) g t ext A c bs p err := ⟨h.blk.drewN n, ⟨h.row.len, h.row.at_⟩, h.ne_, h.byte, h.le, h.cap, h.small⟩
theorem NRd.drew (h : NRd w g t ext A c bs p err) : NRd w.drew g t ext A c bs p err := ⟨h.blk.drew, ⟨h.row.len, h.row.at_⟩, h.ne_, h.byte, h.le, h.cap, h.small⟩
theorem NRd.kept {S : Nat → Prop} (h : NRd w g t ext A c bs p err) (hk : Kept S w w') (hg : ¬ S g) (hA : ∀ b o, A = some ⟨b, o, none⟩ → 0 < bs.length → ¬ S b) : NRd w' g t ext A c bs p err :=
  ⟨h.blk.kept hk hg, h.row.kept hk hA, h.ne_, h.byte, h.le, h.cap, h.small⟩
/-- The place, or the fault, is set. -/
theorem NRd.setAt (h : NRd w g t ext A c bs p err) (p' : Nat) (u : Int) (hu : u = p') (hp : p' ≤ bs.length) : NRd (w.setCell ⟨g, 1, none⟩ (.int .i64 u)) g t ext A c bs p' err := by
  subst hu
  refine ⟨by simpa using h.blk.set_ 1 (.int .i64 p'), ?_, h.ne_, h.byte, hp, h.cap, h.small⟩
  exact h.row.kept (S := fun k => k = g) (Kept.setCell (Kept.refl (fun k => k = g) w) (p := ⟨g, _, none⟩) (fun _ => rfl) _) h.ne_
theorem NRd.setErr (h : NRd w g t ext A c bs p err) (err' : Int) : NRd (w.setCell ⟨g, 2, none⟩ (.int .i64 err')) g t ext A c bs p err' := by
  refine ⟨by simpa using h.blk.set_ 2 (.int .i64 err'), ?_, h.ne_, h.byte, h.le, h.cap, h.small⟩
  exact h.row.kept (S := fun k => k = g) (Kept.setCell (Kept.refl (fun k => k = g) w) (p := ⟨g, _, none⟩) (fun _ => rfl) _) h.ne_
end

/-- Only the reader's own block is turned. -/
abbrev Mine (g : Nat) (w w' : World) : Prop := Kept (fun k => k = g) w w'

section
variable (g : Nat) (t : TypeId) (ext : List Value) (A : Option Addr) (c : Nat) (bs : List Int) (p : Nat) (err : Int) (w : World)

set_option maxHeartbeats 400000 in
theorem nrErr_any (h : NRd w g t ext A c bs p err) : Calls Try.prog 33 #[.pointer (some ⟨g, 0, none⟩)] w fun e w' => e = .returned (.int .i64 err) ∧ w = w' := by
  have c2 := h.c2
  clear h
  go_enter Try.func33, Try.ntmps33
  go_wp2
  go_ret
  exact ⟨rfl, rfl⟩

set_option maxHeartbeats 400000 in
theorem nrErr_nil : Calls Try.prog 33 #[.pointer none] w fun e w' => e = .returned (.int .i64 2) ∧ w = w' := by
  go_enter Try.func33, Try.ntmps33
  go_wp2
  go_ret
  exact ⟨rfl, rfl⟩

set_option maxHeartbeats 400000 in
theorem nrStuck_any (h : NRd w g t ext A c bs p err) : Calls Try.prog 37 #[.pointer (some ⟨g, 0, none⟩)] w fun e w' => e = .returned (.bool (err != 0)) ∧ w = w' := by
  go_enter Try.func37, Try.ntmps37
  go_wp2_with fail
  refine (nrErr_any g t ext A c bs p err _ h).mono ?_
  rintro e w' ⟨rfl, rfl⟩
  go_wp2
  go_ret
  exact ⟨rfl, rfl⟩

set_option maxHeartbeats 400000 in
theorem nrStuck_nil : Calls Try.prog 37 #[.pointer none] w fun e w' => e = .returned (.bool true) ∧ w = w' := by
  go_enter Try.func37, Try.ntmps37
  go_wp2_with fail
  refine (nrErr_nil _).mono ?_
  rintro e w' ⟨rfl, rfl⟩
  go_wp2
  go_ret
  exact ⟨rfl, rfl⟩

set_option maxHeartbeats 800000 in
theorem nrLeft_any (L : Nat) (h : NRd w g t ext A c bs p err) (hL : p + L = bs.length) : Calls Try.prog 34 #[.pointer (some ⟨g, 0, none⟩)] w fun e w' => e = .returned (.int .i64 L) ∧ ∃ n, w' = w.drewN n := by
  have c0 := h.c0
  have c1 := h.c1
  have hle := h.le
  have hsm := h.small
  have e2 : IntKind.i64.wrap ((bs.length : Int) - p) = (bs.length : Int) - p := IntWalk.i64_in _ (by omega)
  have HL := Lib.hid hL
  clear h hL hle hsm
  go_enter Try.func34, Try.ntmps34
  go_wp2
  go_quiet (fail)
  go_wp2
  go_ret
  exact ⟨ret_int (by have := HL.out; clear e2; omega), _, rfl⟩

set_option maxHeartbeats 400000 in
theorem nrLeft_nil : Calls Try.prog 34 #[.pointer none] w fun e w' => e = .returned (.int .i64 0) ∧ w = w' := by
  go_enter Try.func34, Try.ntmps34
  go_wp2
  go_ret
  exact ⟨rfl, rfl⟩


/-- End: the first fault, or ErrForm, if bytes are left. -/
def rdEnd (L : Nat) (err : Int) : Int := if err ≠ 0 then err else if 0 < L then 4 else 0

end

/-- The next n bytes: those, the place, and the fault behind. -/
def tk (bs : List Int) (p : Nat) (err : Int) (n : Nat) : List Int × Nat × Int :=
  if err ≠ 0 then ([], p, err) else if n ≤ bs.length - p then ((bs.drop p).take n, p + n, 0) else ([], p, 3)

/-- What take leaves. -/
def TakePost (g : Nat) (t : TypeId) (ext : List Value) (A : Option Addr) (c : Nat) (bs : List Int) (w : World) (r : List Int × Nat × Int) (e : Ending) (w' : World) : Prop :=
  ∃ A' m c', e = .returned (.slice A' m c') ∧ Row w' .u8 A' m r.1 ∧ (∀ b o, A' = some ⟨b, o, none⟩ → 0 < m → b ≠ g ∧ b < w.heap.size) ∧ m ≤ c' ∧ NRd w' g t ext A c bs r.2.1 r.2.2 ∧ Mine g w w'

section
variable (g : Nat) (t : TypeId) (ext : List Value) (A : Option Addr) (c : Nat) (bs : List Int) (p : Nat) (err : Int) (w : World)

set_option maxHeartbeats 1600000 in
theorem nrTake_any (n : Nat) (hn : n ≤ 9223372036854775807) (h : NRd w g t ext A c bs p err) :
    Calls Try.prog 39 #[.pointer (some ⟨g, 0, none⟩), .int .i64 n] w (TakePost g t ext A c bs w (tk bs p err n)) := by
  by_cases he : err = 0
  · subst he
    obtain ⟨L, hL⟩ : ∃ L, p + L = bs.length := ⟨bs.length - p, by have := h.le; omega⟩
    have HL := Lib.hid hL
    have hsm := h.small
    by_cases hlt : n ≤ L
    · have htk : tk bs p 0 n = ((bs.drop p).take n, p + n, 0) := by unfold tk; rw [if_neg (by simp), if_pos (by omega)]
      rw [htk]
      have hsl : ∀ W, (Instr.slice 22 (.slice A bs.length c) (some (.int .i64 (p : Int))) (some (.int .i64 ((p : Int) + n))) none).run Try.prog W = .ok (.slice (cutAt A p c) n (c - p)) W := fun W => by
        have := run_slice_part _ _ Try.underlying22 byte_size A bs.length c p (p + n) ((p : Int) + n) (by omega) (by omega) (by have := h.cap; omega) W
        rw [this, Nat.add_sub_cancel_left]
      have hsum : (p : Int) + n ≤ 140737488355328 := by omega
      have hwrap : IntKind.i64.wrap ((p : Int) + n) = (p : Int) + n := IntWalk.i64_in _ (by omega)
      have hgt : ¬ (L : Int) < n := by omega
      clear hL htk
      go_enter Try.func39, Try.ntmps39
      go_wp2_with fail
      refine (nrStuck_any g t ext A c bs p 0 _ h).mono ?_
      rintro e w' ⟨rfl, rfl⟩
      go_wp2_with fail
      refine (nrLeft_any g t ext A c bs p 0 _ L h HL.out).mono ?_
      rintro e w' ⟨rfl, k, rfl⟩
      have h1 := h.drewN k
      have c0 := h1.c0
      have c1 := h1.c1
      have f1 := h1.blk.frozen 1
      generalize hW1 : w.drewN k = w1 at *
      have hk1 : Mine g w w1 := by rw [← hW1]; exact (Kept.refl _ _).drewN k
      have HW1 := Lib.hid hW1
      clear hW1
      go_wp2_with fail
      go_quiet (fail)
      clear hwrap
      go_wp2_with fail
      go_ret
      have hn2 := HL.out
      have hN := (h1.drewN nq).setAt (p + n) ((p : Int) + n) (by omega) (by omega)
      refine ⟨cutAt A p c, n, c - p, rfl, ?_, ?_, by have := h.cap; omega, hN, ?_⟩
      · exact hN.row.cut (by omega) h.cap
      · intro b o e hm
        obtain ⟨hb, o', ho'⟩ := h.row.cut_block (l := p) (m := n) (c := c) (by omega) h.cap b o e hm
        exact ⟨h.ne_ b o' ho' (by omega), hb⟩
      · exact (hk1.drewN nq).setCell (p := ⟨g, 1, none⟩) (fun _ => rfl) _
    · have htk : tk bs p 0 n = ([], p, 3) := by unfold tk; rw [if_neg (by simp), if_neg (by omega)]
      rw [htk]
      have hgt : (L : Int) < n := by omega
      clear hL htk
      go_enter Try.func39, Try.ntmps39
      go_wp2_with fail
      refine (nrStuck_any g t ext A c bs p 0 _ h).mono ?_
      rintro e w' ⟨rfl, rfl⟩
      go_wp2_with fail
      refine (nrLeft_any g t ext A c bs p 0 _ L h HL.out).mono ?_
      rintro e w' ⟨rfl, k, rfl⟩
      have h1 := h.drewN k
      have c2 := h1.c2
      have f2 := h1.blk.frozen 2
      go_wp2_with fail
      go_ret
      exact ⟨none, 0, 0, rfl, Row.empty _ _ _, (fun b o e => by cases e), by omega, h1.setErr 3, Kept.setCell ((Kept.refl (fun k => k = g) w).drewN k) (p := ⟨g, 2, none⟩) (fun _ => rfl) _⟩
  · have hb : (err != 0) = true := by simpa using he
    have htk : tk bs p err n = ([], p, err) := by unfold tk; rw [if_pos he]
    rw [htk]
    clear he htk
    go_enter Try.func39, Try.ntmps39
    go_wp2_with fail
    refine (nrStuck_any g t ext A c bs p err _ h).mono ?_
    rintro e w' ⟨rfl, rfl⟩
    go_wp2_with fail
    go_ret
    exact ⟨none, 0, 0, rfl, Row.empty _ _ _, (fun b o e => by cases e), by omega, h, Kept.refl _ _⟩

set_option maxHeartbeats 400000 in
theorem nrTake_nil (n : Int) : Calls Try.prog 39 #[.pointer none, .int .i64 n] w fun e w' => e = .returned (.slice none 0 0) ∧ w = w' := by
  go_enter Try.func39, Try.ntmps39
  go_wp2_with fail
  refine (nrStuck_nil _).mono ?_
  rintro e w' ⟨rfl, rfl⟩
  go_wp2
  go_ret
  exact ⟨rfl, rfl⟩

/-- What a reading of a text leaves. -/
def TextPost (g : Nat) (t : TypeId) (ext : List Value) (A : Option Addr) (c : Nat) (bs : List Int) (w : World) (r : List Int × Nat × Int) (e : Ending) (w' : World) : Prop :=
  ∃ u, e = .returned u ∧ Own w' 5 .u8 u r.1 ∧ (∀ k, u.ownBlock = some k → w.heap.size ≤ k) ∧ NRd w' g t ext A c bs r.2.1 r.2.2 ∧ Mine g w w'

theorem tk_len (n : Nat) (h : bs.length ≤ 140737488355328) : (tk bs p err n).1.length ≤ 140737488355328 := by
  unfold tk
  split
  · simp
  split
  · simp; omega
  · simp

set_option maxHeartbeats 800000 in
theorem nrRaw_any (n : Int) (hn : n ≤ 9223372036854775807) (h : NRd w g t ext A c bs p err) :
    Calls Try.prog 35 #[.pointer (some ⟨g, 0, none⟩), .int .i64 n] w (TextPost g t ext A c bs w (tk bs p err n.toNat)) := by
  obtain ⟨i0, hi, hz0, hz1, hz2⟩ := info_parts Try.infoByteN
  have hmax : max n 0 = ((n.toNat : Nat) : Int) := by omega
  have hlen := tk_len bs p err n.toNat h.small
  have Hlen := Lib.hid hlen
  have HM := Lib.hid hmax
  clear hmax hlen
  go_enter Try.func35, Try.ntmps35
  go_wp2_with fail
  rw [HM.out]
  refine (nrTake_any g t ext A c bs p err _ n.toNat (by omega) h).mono ?_
  rintro e w1 ⟨A', m, c', rfl, hr, hA, hc, h1, hk⟩
  have hm := hr.len
  have Hm := Lib.hid hm
  clear hm
  generalize tk bs p err n.toNat = r at *
  go_wp2_with (at_builtin; refine wpList_app _ rfl _ _ 22 rfl 5 i0 .u8 1 Try.underlying22 hi hz0 hz1 hz2 (.slice none 0 0) [] rfl (Own.nil _ _ _) A' m c' r.1 rfl hr (by unfold maxLen; have := Hlen.out; have := Hm.out; simp; omega) (by have := Hlen.out; have := Hm.out; simp; omega) ?_)
  intro v' w' hown hg hat
  have hf : Fresh w1 w' := (Kept.refl _ _).grown hg (fun k e _ => by cases e)
  go_wp2
  go_ret
  refine ⟨v', rfl, by simpa using hown, fun k hk' => ?_, h1.kept hf id (fun _ _ _ _ => id), hk.trans hf fun _ _ h => h.elim⟩
  rcases hat with e | e
  · rw [e] at hk'; cases hk'
  · rw [e] at hk'; injection hk' with hk'; have := hk.size; omega

set_option maxHeartbeats 400000 in
theorem nrRaw_nil (n : Int) : Calls Try.prog 35 #[.pointer none, .int .i64 n] w fun e w' => e = .returned (.slice none 0 0) ∧ w = w' := by
  obtain ⟨i0, hi, hz0, hz1, hz2⟩ := info_parts Try.infoByteN
  go_enter Try.func35, Try.ntmps35
  go_wp2_with fail
  refine (nrTake_nil _ _).mono ?_
  rintro e w' ⟨rfl, rfl⟩
  have hr := run_app_nothing (P := Try.prog) w 22 22 5 i0 Try.underlying22 hi .u8 (.slice none 0 0) [] (Own.nil _ _ _) 0
  go_wp2
  go_ret
  exact ⟨rfl, rfl⟩

set_option maxHeartbeats 400000 in
theorem nrNum_nil : Calls Try.prog 32 #[.pointer none] w fun e w' => e = .returned (.int .u64 0) ∧ w = w' := by
  go_enter Try.func32, Try.ntmps32
  go_wp2_with fail
  refine (nrStuck_nil _).mono ?_
  rintro e w' ⟨rfl, rfl⟩
  go_wp2
  go_ret
  exact ⟨rfl, rfl⟩

/-- The next number: it, the place, and the fault behind. -/
def nx (bs : List Int) (p : Nat) (err : Int) : Nat × Nat × Int :=
  if err ≠ 0 then (0, p, err) else ((rd 0 0 (bs.drop p)).1, p + (rd 0 0 (bs.drop p)).2.1, (rd 0 0 (bs.drop p)).2.2)

def NumPost (g : Nat) (t : TypeId) (ext : List Value) (A : Option Addr) (c : Nat) (bs : List Int) (w : World) (r : Nat × Nat × Int) (e : Ending) (w' : World) : Prop :=
  e = .returned (.int .u64 r.1) ∧ NRd w' g t ext A c bs r.2.1 r.2.2 ∧ Mine g w w'

set_option maxHeartbeats 800000 in
theorem nrNum_any (h : NRd w g t ext A c bs p err) :
    Calls Try.prog 32 #[.pointer (some ⟨g, 0, none⟩)] w (NumPost g t ext A c bs w (nx bs p err)) := by
  by_cases he : err = 0
  · subst he
    have hbd : ∀ x ∈ bs.drop p, 0 ≤ x ∧ x < 256 := fun x hx => h.byte x (List.mem_of_mem_drop hx)
    have hfit := rd_fits (bs.drop p) 0 0 hbd (by omega) (by simp)
    have hle := h.le
    have hsm := h.small
    have hcp := h.cap
    have hrow : Row w .u8 (cutAt A p c) (bs.length - p) (bs.drop p) := by
      have := h.row.cut (l := p) (m := bs.length - p) (c := c) (by omega) h.cap
      rw [List.take_of_length_le (by simp)] at this
      exact this
    have hsv := nSevens_any (cutAt A p c) (bs.length - p) (c - p) (bs.drop p)
    have hnx : nx bs p 0 = ((rd 0 0 (bs.drop p)).1, p + (rd 0 0 (bs.drop p)).2.1, (rd 0 0 (bs.drop p)).2.2) := by unfold nx; rw [if_neg (by simp)]
    rw [hnx]
    rw [List.length_drop] at hfit
    generalize rd 0 0 (bs.drop p) = R at *
    obtain ⟨x, k, f⟩ := R
    simp only at hfit
    have hsl : ∀ W, (Instr.slice 22 (.slice A bs.length c) (some (.int .i64 (p : Int))) none none).run Try.prog W = .ok (.slice (cutAt A p c) (bs.length - p) (c - p)) W := fun W =>
      run_slice_from _ _ Try.underlying22 byte_size A bs.length c p hle W
    have hk0 : p + k ≤ bs.length := by omega
    have hsv' : ∀ W, Row W .u8 (cutAt A p c) (bs.length - p) (bs.drop p) → Calls Try.prog 38 #[.slice (cutAt A p c) (bs.length - p) (c - p)] W fun e w' => e = .returned (.tuple #[.int .u64 x, .int .i64 k, .int .i64 f]) ∧ w' = W := fun W hW =>
      (hsv W hW hbd (by omega) (by omega)).mono fun e w' h => ⟨h.1, h.2.symm⟩
    have Hsv := Lib.hid hsv'
    have hk1 : (p : Int) + k ≤ 140737488355328 := by omega
    clear hnx hfit hsv hbd hsv'
    have Hrow := Lib.hid hrow
    clear hrow
    go_enter Try.func32, Try.ntmps32
    go_wp2_with fail
    refine (nrStuck_any g t ext A c bs p 0 _ h).mono ?_
    rintro e w' ⟨rfl, rfl⟩
    have c0 := h.c0
    have c1 := h.c1
    have c2 := h.c2
    have f1 := h.blk.frozen 1
    have f2 := h.blk.frozen 2
    go_wp2_with fail
    go_quiet ((go_at_call 38; exact Calls.quiet_of_same (Hsv.out _ (Hrow.out.drewN _))))
    go_wp2_with fail
    go_ret
    exact ⟨rfl, ((h.drewN nq).setAt (p + k) ((p : Int) + k) (by omega) hk0).setErr f, Kept.setCell (Kept.setCell ((Kept.refl (fun k => k = g) w).drewN nq) (p := ⟨g, 1, none⟩) (fun _ => rfl) _) (p := ⟨g, 2, none⟩) (fun _ => rfl) _⟩
  · have hb : (err != 0) = true := by simpa using he
    have hnx : nx bs p err = (0, p, err) := by unfold nx; rw [if_pos he]
    rw [hnx]
    clear he hnx
    go_enter Try.func32, Try.ntmps32
    go_wp2_with fail
    refine (nrStuck_any g t ext A c bs p err _ h).mono ?_
    rintro e w' ⟨rfl, rfl⟩
    go_wp2_with fail
    go_ret
    exact ⟨rfl, h, Kept.refl _ _⟩
end

end Go.Proofs.Ytbbkdgbgfncjaaa
