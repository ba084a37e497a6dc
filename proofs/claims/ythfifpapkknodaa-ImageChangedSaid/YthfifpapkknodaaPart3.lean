/- Texts of this proof, one behind the other: NumR2, NumR3, HelpStr, PicD, PicH, PicI, PicE, PicJ, Law, Args, PicAw, ImaAw. -/
import Derived.Test.YthfifpapkknodaaPart2
import Derived.Test.YthfifpapkknodaaPart1
import Derived.Defers
import Derived.Laws.BytesArg
import Derived.Lib.Bytes
import Derived.ProofKit
import Derived.OpenShut
import Derived.Deep.Slices
import Derived.Deep.Fields
import Derived.Lib.SlBytesConst

/- The contracts of num.Reader: a reader at the head of a block, also one that is embedded there. -/
namespace Go.Proofs.Ythfifpapkknodaa
open Go.RowKit

/-- A reader at the head of block g (of type t; ext: what lies behind it). -/
structure NRd (w : World) (g : Nat) (t : TypeId) (ext : List Value) (A : Option Addr) (c : Nat) (bs : List Int) (p : Nat) (err : Int) : Prop where
  blk : Blk w g t (.slice A bs.length c :: .int .i64 p :: .int .i64 err :: ext).toArray
  row : Row w .u8 A bs.length bs
  ne_ : ∀ b o, A = some ⟨b, o, none⟩ → 0 < bs.length → b ≠ g
  byte : ∀ c ∈ bs, 0 ≤ c ∧ c < 256
  le : p ≤ bs.length
  cap : bs.length ≤ c
  small : bs.length ≤ 140737488355328

section
variable {w w' : World} {g : Nat} {t : TypeId} {ext : List Value} {A : Option Addr} {c : Nat} {bs : List Int} {p : Nat} {err : Int}
theorem NRd.c0 (h : NRd w g t ext A c bs p err) : w.cell? ⟨g, 0, none⟩ = some (.slice A bs.length c) := by rw [h.blk.cell 0]; simp
theorem NRd.c1 (h : NRd w g t ext A c bs p err) : w.cell? ⟨g, 1, none⟩ = some (.int .i64 p) := by rw [h.blk.cell 1]; simp
theorem NRd.c2 (h : NRd w g t ext A c bs p err) : w.cell? ⟨g, 2, none⟩ = some (.int .i64 err) := by rw [h.blk.cell 2]; simp
theorem NRd.drewN (h : NRd w g t ext A c bs p err) (n : Nat) : NRd (w.drewN n) g t ext A c bs p err := ⟨h.blk.drewN n, ⟨h.row.len, h.row.at_⟩, h.ne_, h.byte, h.le, h.cap, h.small⟩
theorem NRd.drew (h : NRd w g t ext A c bs p err) : NRd w.drew g t ext A c bs p err := ⟨h.blk.drew, ⟨h.row.len, h.row.at_⟩, h.ne_, h.byte, h.le, h.cap, h.small⟩
theorem NRd.kept {S : Nat → Prop} (h : NRd w g t ext A c bs p err) (hk : Kept S w w') (hg : ¬ S g) (hA : ∀ b o, A = some ⟨b, o, none⟩ → 0 < bs.length → ¬ S b) : NRd w' g t ext A c bs p err :=
  ⟨h.blk.kept hk hg, h.row.kept hk hA, h.ne_, h.byte, h.le, h.cap, h.small⟩
/-- The place, or the fault, is set. -/
theorem NRd.setAt (h : NRd w g t ext A c bs p err) (p' : Nat) (u : Int) (hu : u = p') (hp : p' ≤ bs.length) : NRd (w.setCell ⟨g, 1, none⟩ (.int .i64 u)) g t ext A c bs p' err := by
  subst hu
  refine ⟨by simpa using h.blk.set_ 1 (.int .i64 p'), ?_, h.ne_, h.byte, hp, h.cap, h.small⟩
  exact h.row.kept (S := fun k => k = g) (Kept.setCell (Kept.refl (fun k => k = g) w) (p := ⟨g, _, none⟩) (fun _ => rfl) _) h.ne_
theorem NRd.setErr (h : NRd w g t ext A c bs p err) (err' : Int) : NRd (w.setCell ⟨g, 2, none⟩ (.int .i64 err')) g t ext A c bs p err' := by
  refine ⟨by simpa using h.blk.set_ 2 (.int .i64 err'), ?_, h.ne_, h.byte, h.le, h.cap, h.small⟩
  exact h.row.kept (S := fun k => k = g) (Kept.setCell (Kept.refl (fun k => k = g) w) (p := ⟨g, _, none⟩) (fun _ => rfl) _) h.ne_
end

/-- Only the reader's own block is turned. -/
abbrev Mine (g : Nat) (w w' : World) : Prop := Kept (fun k => k = g) w w'

section
variable (g : Nat) (t : TypeId) (ext : List Value) (A : Option Addr) (c : Nat) (bs : List Int) (p : Nat) (err : Int) (w : World)

set_option maxHeartbeats 400000 in
theorem nrErr_any (h : NRd w g t ext A c bs p err) : Calls Try.prog 57 #[.pointer (some ⟨g, 0, none⟩)] w fun e w' => e = .returned (.int .i64 err) ∧ w = w' := by
  have c2 := h.c2
  clear h
  go_enter Try.func57, Try.ntmps57
  go_wp2
  go_ret
  exact ⟨rfl, rfl⟩

set_option maxHeartbeats 400000 in
theorem nrErr_nil : Calls Try.prog 57 #[.pointer none] w fun e w' => e = .returned (.int .i64 2) ∧ w = w' := by
  go_enter Try.func57, Try.ntmps57
  go_wp2
  go_ret
  exact ⟨rfl, rfl⟩

set_option maxHeartbeats 400000 in
theorem nrStuck_any (h : NRd w g t ext A c bs p err) : Calls Try.prog 83 #[.pointer (some ⟨g, 0, none⟩)] w fun e w' => e = .returned (.bool (err != 0)) ∧ w = w' := by
  go_enter Try.func83, Try.ntmps83
  go_wp2_with fail
  refine (nrErr_any g t ext A c bs p err _ h).mono ?_
  rintro e w' ⟨rfl, rfl⟩
  go_wp2
  go_ret
  exact ⟨rfl, rfl⟩

set_option maxHeartbeats 400000 in
theorem nrStuck_nil : Calls Try.prog 83 #[.pointer none] w fun e w' => e = .returned (.bool true) ∧ w = w' := by
  go_enter Try.func83, Try.ntmps83
  go_wp2_with fail
  refine (nrErr_nil _).mono ?_
  rintro e w' ⟨rfl, rfl⟩
  go_wp2
  go_ret
  exact ⟨rfl, rfl⟩

set_option maxHeartbeats 800000 in
theorem nrLeft_any (L : Nat) (h : NRd w g t ext A c bs p err) (hL : p + L = bs.length) : Calls Try.prog 69 #[.pointer (some ⟨g, 0, none⟩)] w fun e w' => e = .returned (.int .i64 L) ∧ ∃ n, w' = w.drewN n := by
  have c0 := h.c0
  have c1 := h.c1
  have hle := h.le
  have hsm := h.small
  have e2 : IntKind.i64.wrap ((bs.length : Int) - p) = (bs.length : Int) - p := IntWalk.i64_in _ (by omega)
  have HL := Lib.hid hL
  clear h hL hle hsm
  go_enter Try.func69, Try.ntmps69
  go_wp2
  go_quiet (fail)
  go_wp2
  go_ret
  exact ⟨ret_int (by have := HL.out; clear e2; omega), _, rfl⟩

set_option maxHeartbeats 400000 in
theorem nrLeft_nil : Calls Try.prog 69 #[.pointer none] w fun e w' => e = .returned (.int .i64 0) ∧ w = w' := by
  go_enter Try.func69, Try.ntmps69
  go_wp2
  go_ret
  exact ⟨rfl, rfl⟩

set_option maxHeartbeats 400000 in
theorem nrEnd_nil : Calls Try.prog 60 #[.pointer none] w fun e w' => e = .returned (.int .i64 2) ∧ w = w' := by
  go_enter Try.func60, Try.ntmps60
  go_wp2_with fail
  refine (nrStuck_nil _).mono ?_
  rintro e w' ⟨rfl, rfl⟩
  go_wp2_with fail
  refine (nrErr_nil _).mono ?_
  rintro e w' ⟨rfl, rfl⟩
  go_wp2
  go_ret
  exact ⟨rfl, rfl⟩

/-- End: the first fault, or ErrForm, if bytes are left. -/
def rdEnd (L : Nat) (err : Int) : Int := if err ≠ 0 then err else if 0 < L then 4 else 0

set_option maxHeartbeats 800000 in
theorem nrEnd_any (L : Nat) (h : NRd w g t ext A c bs p err) (hL : p + L = bs.length) : Calls Try.prog 60 #[.pointer (some ⟨g, 0, none⟩)] w fun e w' => e = .returned (.int .i64 (rdEnd L err)) ∧ ∃ n, w' = w.drewN n := by
  have HL := Lib.hid hL
  clear hL
  by_cases he : err = 0
  · subst he
    go_enter Try.func60, Try.ntmps60
    go_wp2_with fail
    refine (nrStuck_any g t ext A c bs p 0 _ h).mono ?_
    rintro e w' ⟨rfl, rfl⟩
    go_wp2_with fail
    refine (nrLeft_any g t ext A c bs p 0 _ L h HL.out).mono ?_
    rintro e w' ⟨rfl, n, rfl⟩
    by_cases hl : 0 < L
    · have hl' : (0 : Int) < L := by omega
      go_wp2_with fail
      go_ret
      exact ⟨ret_int (by unfold rdEnd; rw [if_neg (by simp), if_pos hl]), n, rfl⟩
    · have hl' : ¬ (0 : Int) < L := by omega
      go_wp2_with fail
      go_ret
      exact ⟨ret_int (by unfold rdEnd; rw [if_neg (by simp), if_neg hl]), n, rfl⟩
  · have hb : (err != 0) = true := by simpa using he
    have He := Lib.hid he
    clear he
    go_enter Try.func60, Try.ntmps60
    go_wp2_with fail
    refine (nrStuck_any g t ext A c bs p err _ h).mono ?_
    rintro e w' ⟨rfl, rfl⟩
    go_wp2_with fail
    refine (nrErr_any g t ext A c bs p err _ h).mono ?_
    rintro e w' ⟨rfl, rfl⟩
    go_wp2_with fail
    go_ret
    exact ⟨ret_int (by unfold rdEnd; rw [if_pos He.out]), 0, rfl⟩
end

/-- The next n bytes: those, the place, and the fault behind. -/
def tk (bs : List Int) (p : Nat) (err : Int) (n : Nat) : List Int × Nat × Int :=
  if err ≠ 0 then ([], p, err) else if n ≤ bs.length - p then ((bs.drop p).take n, p + n, 0) else ([], p, 3)

/-- What take leaves. -/
def TakePost (g : Nat) (t : TypeId) (ext : List Value) (A : Option Addr) (c : Nat) (bs : List Int) (w : World) (r : List Int × Nat × Int) (e : Ending) (w' : World) : Prop :=
  ∃ A' m c', e = .returned (.slice A' m c') ∧ Row w' .u8 A' m r.1 ∧ (∀ b o, A' = some ⟨b, o, none⟩ → 0 < m → b ≠ g ∧ b < w.heap.size) ∧ m ≤ c' ∧ NRd w' g t ext A c bs r.2.1 r.2.2 ∧ Mine g w w'

section
variable (g : Nat) (t : TypeId) (ext : List Value) (A : Option Addr) (c : Nat) (bs : List Int) (p : Nat) (err : Int) (w : World)

set_option maxHeartbeats 1600000 in
theorem nrTake_any (n : Nat) (hn : n ≤ 9223372036854775807) (h : NRd w g t ext A c bs p err) :
    Calls Try.prog 88 #[.pointer (some ⟨g, 0, none⟩), .int .i64 n] w (TakePost g t ext A c bs w (tk bs p err n)) := by
  by_cases he : err = 0
  · subst he
    obtain ⟨L, hL⟩ : ∃ L, p + L = bs.length := ⟨bs.length - p, by have := h.le; omega⟩
    have HL := Lib.hid hL
    have hsm := h.small
    by_cases hlt : n ≤ L
    · have htk : tk bs p 0 n = ((bs.drop p).take n, p + n, 0) := by unfold tk; rw [if_neg (by simp), if_pos (by omega)]
      rw [htk]
      have hsl : ∀ W, (Instr.slice 22 (.slice A bs.length c) (some (.int .i64 (p : Int))) (some (.int .i64 ((p : Int) + n))) none).run Try.prog W = .ok (.slice (cutAt A p c) n (c - p)) W := fun W => by
        have := run_slice_part _ _ Try.underlying22 byte_size A bs.length c p (p + n) ((p : Int) + n) (by omega) (by omega) (by have := h.cap; omega) W
        rw [this, Nat.add_sub_cancel_left]
      have hsum : (p : Int) + n ≤ 140737488355328 := by omega
      have hwrap : IntKind.i64.wrap ((p : Int) + n) = (p : Int) + n := IntWalk.i64_in _ (by omega)
      have hgt : ¬ (L : Int) < n := by omega
      clear hL htk
      go_enter Try.func88, Try.ntmps88
      go_wp2_with fail
      refine (nrStuck_any g t ext A c bs p 0 _ h).mono ?_
      rintro e w' ⟨rfl, rfl⟩
      go_wp2_with fail
      refine (nrLeft_any g t ext A c bs p 0 _ L h HL.out).mono ?_
      rintro e w' ⟨rfl, k, rfl⟩
      have h1 := h.drewN k
      have c0 := h1.c0
      have c1 := h1.c1
      have f1 := h1.blk.frozen 1
      generalize hW1 : w.drewN k = w1 at *
      have hk1 : Mine g w w1 := by rw [← hW1]; exact (Kept.refl _ _).drewN k
      have HW1 := Lib.hid hW1
      clear hW1
      go_wp2_with fail
      go_quiet (fail)
      clear hwrap
      go_wp2_with fail
      go_ret
      have hn2 := HL.out
      have hN := (h1.drewN nq).setAt (p + n) ((p : Int) + n) (by omega) (by omega)
      refine ⟨cutAt A p c, n, c - p, rfl, ?_, ?_, by have := h.cap; omega, hN, ?_⟩
      · exact hN.row.cut (by omega) h.cap
      · intro b o e hm
        obtain ⟨hb, o', ho'⟩ := h.row.cut_block (l := p) (m := n) (c := c) (by omega) h.cap b o e hm
        exact ⟨h.ne_ b o' ho' (by omega), hb⟩
      · exact (hk1.drewN nq).setCell (p := ⟨g, 1, none⟩) (fun _ => rfl) _
    · have htk : tk bs p 0 n = ([], p, 3) := by unfold tk; rw [if_neg (by simp), if_neg (by omega)]
      rw [htk]
      have hgt : (L : Int) < n := by omega
      clear hL htk
      go_enter Try.func88, Try.ntmps88
      go_wp2_with fail
      refine (nrStuck_any g t ext A c bs p 0 _ h).mono ?_
      rintro e w' ⟨rfl, rfl⟩
      go_wp2_with fail
      refine (nrLeft_any g t ext A c bs p 0 _ L h HL.out).mono ?_
      rintro e w' ⟨rfl, k, rfl⟩
      have h1 := h.drewN k
      have c2 := h1.c2
      have f2 := h1.blk.frozen 2
      go_wp2_with fail
      go_ret
      exact ⟨none, 0, 0, rfl, Row.empty _ _ _, (fun b o e => by cases e), by omega, h1.setErr 3, Kept.setCell ((Kept.refl (fun k => k = g) w).drewN k) (p := ⟨g, 2, none⟩) (fun _ => rfl) _⟩
  · have hb : (err != 0) = true := by simpa using he
    have htk : tk bs p err n = ([], p, err) := by unfold tk; rw [if_pos he]
    rw [htk]
    clear he htk
    go_enter Try.func88, Try.ntmps88
    go_wp2_with fail
    refine (nrStuck_any g t ext A c bs p err _ h).mono ?_
    rintro e w' ⟨rfl, rfl⟩
    go_wp2_with fail
    go_ret
    exact ⟨none, 0, 0, rfl, Row.empty _ _ _, (fun b o e => by cases e), by omega, h, Kept.refl _ _⟩

set_option maxHeartbeats 400000 in
theorem nrTake_nil (n : Int) : Calls Try.prog 88 #[.pointer none, .int .i64 n] w fun e w' => e = .returned (.slice none 0 0) ∧ w = w' := by
  go_enter Try.func88, Try.ntmps88
  go_wp2_with fail
  refine (nrStuck_nil _).mono ?_
  rintro e w' ⟨rfl, rfl⟩
  go_wp2
  go_ret
  exact ⟨rfl, rfl⟩

/-- What a reading of a text leaves. -/
def TextPost (g : Nat) (t : TypeId) (ext : List Value) (A : Option Addr) (c : Nat) (bs : List Int) (w : World) (r : List Int × Nat × Int) (e : Ending) (w' : World) : Prop :=
  ∃ u, e = .returned u ∧ Own w' 5 .u8 u r.1 ∧ (∀ k, u.ownBlock = some k → w.heap.size ≤ k) ∧ NRd w' g t ext A c bs r.2.1 r.2.2 ∧ Mine g w w'

theorem tk_len (n : Nat) (h : bs.length ≤ 140737488355328) : (tk bs p err n).1.length ≤ 140737488355328 := by
  unfold tk
  split
  · simp
  split
  · simp; omega
  · simp

set_option maxHeartbeats 800000 in
theorem nrRaw_any (n : Int) (hn : n ≤ 9223372036854775807) (h : NRd w g t ext A c bs p err) :
    Calls Try.prog 59 #[.pointer (some ⟨g, 0, none⟩), .int .i64 n] w (TextPost g t ext A c bs w (tk bs p err n.toNat)) := by
  obtain ⟨i0, hi, hz0, hz1, hz2⟩ := info_parts Try.infoByteN
  have hmax : max n 0 = ((n.toNat : Nat) : Int) := by omega
  have hlen := tk_len bs p err n.toNat h.small
  have Hlen := Lib.hid hlen
  have HM := Lib.hid hmax
  clear hmax hlen
  go_enter Try.func59, Try.ntmps59
  go_wp2_with fail
  rw [HM.out]
  refine (nrTake_any g t ext A c bs p err _ n.toNat (by omega) h).mono ?_
  rintro e w1 ⟨A', m, c', rfl, hr, hA, hc, h1, hk⟩
  have hm := hr.len
  have Hm := Lib.hid hm
  clear hm
  generalize tk bs p err n.toNat = r at *
  go_wp2_with (at_builtin; refine wpList_app _ rfl _ _ 22 rfl 5 i0 .u8 1 Try.underlying22 hi hz0 hz1 hz2 (.slice none 0 0) [] rfl (Own.nil _ _ _) A' m c' r.1 rfl hr (by unfold maxLen; have := Hlen.out; have := Hm.out; simp; omega) (by have := Hlen.out; have := Hm.out; simp; omega) ?_)
  intro v' w' hown hg hat
  have hf : Fresh w1 w' := (Kept.refl _ _).grown hg (fun k e _ => by cases e)
  go_wp2
  go_ret
  refine ⟨v', rfl, by simpa using hown, fun k hk' => ?_, h1.kept hf id (fun _ _ _ _ => id), hk.trans hf fun _ _ h => h.elim⟩
  rcases hat with e | e
  · rw [e] at hk'; cases hk'
  · rw [e] at hk'; injection hk' with hk'; have := hk.size; omega

set_option maxHeartbeats 400000 in
theorem nrRaw_nil (n : Int) : Calls Try.prog 59 #[.pointer none, .int .i64 n] w fun e w' => e = .returned (.slice none 0 0) ∧ w = w' := by
  obtain ⟨i0, hi, hz0, hz1, hz2⟩ := info_parts Try.infoByteN
  go_enter Try.func59, Try.ntmps59
  go_wp2_with fail
  refine (nrTake_nil _ _).mono ?_
  rintro e w' ⟨rfl, rfl⟩
  have hr := run_app_nothing (P := Try.prog) w 22 22 5 i0 Try.underlying22 hi .u8 (.slice none 0 0) [] (Own.nil _ _ _) 0
  go_wp2
  go_ret
  exact ⟨rfl, rfl⟩

set_option maxHeartbeats 400000 in
theorem nrNum_nil : Calls Try.prog 55 #[.pointer none] w fun e w' => e = .returned (.int .u64 0) ∧ w = w' := by
  go_enter Try.func55, Try.ntmps55
  go_wp2_with fail
  refine (nrStuck_nil _).mono ?_
  rintro e w' ⟨rfl, rfl⟩
  go_wp2
  go_ret
  exact ⟨rfl, rfl⟩

/-- The next number: it, the place, and the fault behind. -/
def nx (bs : List Int) (p : Nat) (err : Int) : Nat × Nat × Int :=
  if err ≠ 0 then (0, p, err) else ((rd 0 0 (bs.drop p)).1, p + (rd 0 0 (bs.drop p)).2.1, (rd 0 0 (bs.drop p)).2.2)

def NumPost (g : Nat) (t : TypeId) (ext : List Value) (A : Option Addr) (c : Nat) (bs : List Int) (w : World) (r : Nat × Nat × Int) (e : Ending) (w' : World) : Prop :=
  e = .returned (.int .u64 r.1) ∧ NRd w' g t ext A c bs r.2.1 r.2.2 ∧ Mine g w w'

set_option maxHeartbeats 800000 in
theorem nrNum_any (h : NRd w g t ext A c bs p err) :
    Calls Try.prog 55 #[.pointer (some ⟨g, 0, none⟩)] w (NumPost g t ext A c bs w (nx bs p err)) := by
  by_cases he : err = 0
  · subst he
    have hbd : ∀ x ∈ bs.drop p, 0 ≤ x ∧ x < 256 := fun x hx => h.byte x (List.mem_of_mem_drop hx)
    have hfit := rd_fits (bs.drop p) 0 0 hbd (by omega) (by simp)
    have hle := h.le
    have hsm := h.small
    have hcp := h.cap
    have hrow : Row w .u8 (cutAt A p c) (bs.length - p) (bs.drop p) := by
      have := h.row.cut (l := p) (m := bs.length - p) (c := c) (by omega) h.cap
      rw [List.take_of_length_le (by simp)] at this
      exact this
    have hsv := nSevens_any (cutAt A p c) (bs.length - p) (c - p) (bs.drop p)
    have hnx : nx bs p 0 = ((rd 0 0 (bs.drop p)).1, p + (rd 0 0 (bs.drop p)).2.1, (rd 0 0 (bs.drop p)).2.2) := by unfold nx; rw [if_neg (by simp)]
    rw [hnx]
    rw [List.length_drop] at hfit
    generalize rd 0 0 (bs.drop p) = R at *
    obtain ⟨x, k, f⟩ := R
    simp only at hfit
    have hsl : ∀ W, (Instr.slice 22 (.slice A bs.length c) (some (.int .i64 (p : Int))) none none).run Try.prog W = .ok (.slice (cutAt A p c) (bs.length - p) (c - p)) W := fun W =>
      run_slice_from _ _ Try.underlying22 byte_size A bs.length c p hle W
    have hk0 : p + k ≤ bs.length := by omega
    have hsv' : ∀ W, Row W .u8 (cutAt A p c) (bs.length - p) (bs.drop p) → Calls Try.prog 84 #[.slice (cutAt A p c) (bs.length - p) (c - p)] W fun e w' => e = .returned (.tuple #[.int .u64 x, .int .i64 k, .int .i64 f]) ∧ w' = W := fun W hW =>
      (hsv W hW hbd (by omega) (by omega)).mono fun e w' h => ⟨h.1, h.2.symm⟩
    have Hsv := Lib.hid hsv'
    have hk1 : (p : Int) + k ≤ 140737488355328 := by omega
    clear hnx hfit hsv hbd hsv'
    have Hrow := Lib.hid hrow
    clear hrow
    go_enter Try.func55, Try.ntmps55
    go_wp2_with fail
    refine (nrStuck_any g t ext A c bs p 0 _ h).mono ?_
    rintro e w' ⟨rfl, rfl⟩
    have c0 := h.c0
    have c1 := h.c1
    have c2 := h.c2
    have f1 := h.blk.frozen 1
    have f2 := h.blk.frozen 2
    go_wp2_with fail
    go_quiet ((go_at_call 84; exact Calls.quiet_of_same (Hsv.out _ (Hrow.out.drewN _))))
    go_wp2_with fail
    go_ret
    exact ⟨rfl, ((h.drewN nq).setAt (p + k) ((p : Int) + k) (by omega) hk0).setErr f, Kept.setCell (Kept.setCell ((Kept.refl (fun k => k = g) w).drewN nq) (p := ⟨g, 1, none⟩) (fun _ => rfl) _) (p := ⟨g, 2, none⟩) (fun _ => rfl) _⟩
  · have hb : (err != 0) = true := by simpa using he
    have hnx : nx bs p err = (0, p, err) := by unfold nx; rw [if_pos he]
    rw [hnx]
    clear he hnx
    go_enter Try.func55, Try.ntmps55
    go_wp2_with fail
    refine (nrStuck_any g t ext A c bs p err _ h).mono ?_
    rintro e w' ⟨rfl, rfl⟩
    go_wp2_with fail
    go_ret
    exact ⟨rfl, h, Kept.refl _ _⟩
end

end Go.Proofs.Ythfifpapkknodaa

/- The contracts of num.Reader: New, Zig, Little, Big, Text. -/
namespace Go.Proofs.Ythfifpapkknodaa
open Go.RowKit
set_option maxRecDepth 100000

theorem or_le (acc c i : Nat) (hi : i ≤ 7) (hc : c < 256) (ha : acc < 256 ^ i) :
    bits .or .u64 (acc : Int) (IntKind.u64.wrap ((c : Int) * 2 ^ (8 * i))) = ((acc + c * 256 ^ i : Nat) : Int) := by
  have e2 : (2 : Nat) ^ (8 * i) = 256 ^ i := by rw [Nat.pow_mul]
  have h7 : 256 ^ i ≤ 256 ^ 7 := Nat.pow_le_pow_right (by omega) (by omega)
  have hlt : c * 256 ^ i < 18446744073709551616 := by
    have := Nat.mul_le_mul (show c ≤ 255 by omega) h7
    omega
  have e3 : IntKind.u64.wrap ((c : Int) * 2 ^ (8 * i)) = ((c * 256 ^ i : Nat) : Int) := by
    have : ((c : Int) * 2 ^ (8 * i)) = ((c * 256 ^ i : Nat) : Int) := by rw [← e2]; simp
    rw [this, IntKind.wrap_u64]
    omega
  rw [e3, u64_or_nat _ _ (by omega) hlt, Nat.or_comm, nat_join (8 * i) (c * 256 ^ i) acc (by rw [e2]; exact Nat.mul_mod_left _ _) (by rw [e2]; exact ha), Nat.add_comm]

theorem or_be (acc c i : Nat) (hi : i ≤ 7) (hc : c < 256) (ha : acc < 256 ^ i) :
    bits .or .u64 (IntKind.u64.wrap ((acc : Int) * 256)) (c : Int) = ((256 * acc + c : Nat) : Int) := by
  have h7 : 256 ^ i ≤ 256 ^ 7 := Nat.pow_le_pow_right (by omega) (by omega)
  have e3 : IntKind.u64.wrap ((acc : Int) * 256) = ((256 * acc : Nat) : Int) := by rw [IntKind.wrap_u64]; omega
  rw [e3, u64_or_nat _ _ (by omega) (by omega), nat_join 8 (256 * acc) c (by simp) (by omega)]

theorem tk_byte (bs : List Int) (p : Nat) (err : Int) (n : Nat) (h : ∀ c ∈ bs, 0 ≤ c ∧ c < 256) : ∀ c ∈ (tk bs p err n).1, 0 ≤ c ∧ c < 256 := by
  unfold tk
  split
  · simp
  split
  · intro c hc
    exact h c (List.mem_of_mem_drop (List.mem_of_mem_take hc))
  · simp
theorem tk_len_le (bs : List Int) (p : Nat) (err : Int) (n : Nat) : (tk bs p err n).1.length ≤ n := by
  unfold tk
  split
  · simp
  split
  · simp; omega
  · simp

/-- A number's reading leaves. -/
def IntPost (g : Nat) (t : TypeId) (ext : List Value) (A : Option Addr) (c : Nat) (bs : List Int) (w : World) (v : Value) (p : Nat) (err : Int) (e : Ending) (w' : World) : Prop :=
  e = .returned v ∧ NRd w' g t ext A c bs p err ∧ Mine g w w'

section
variable (g : Nat) (t : TypeId) (ext : List Value) (A : Option Addr) (c : Nat) (bs : List Int) (p : Nat) (err : Int) (w : World)

set_option maxHeartbeats 1600000 in
theorem nrLittle_any (n : Int) (h : NRd w g t ext A c bs p err) :
    Calls Try.prog 65 #[.pointer (some ⟨g, 0, none⟩), .int .i64 n] w (IntPost g t ext A c bs w (.int .u64 (leNum (tk bs p err (wid n)).1)) (tk bs p err (wid n)).2.1 (tk bs p err (wid n)).2.2) := by
  have h8 := wid_le n
  have hby := tk_byte bs p err (wid n) h.byte
  have hle := tk_len_le bs p err (wid n)
  have Hby := Lib.hid hby
  clear hby
  go_enter Try.func65, Try.ntmps65
  go_wp2_with fail
  refine (nWidth_any n _).mono ?_
  rintro e w' ⟨rfl, rfl⟩
  go_wp2_with fail
  refine (nrTake_any g t ext A c bs p err _ (wid n) (by omega) h).mono ?_
  rintro e w1 ⟨A', m, c', rfl, hr, hA, hc, h1, hk⟩
  have hlen := hr.len
  generalize tk bs p err (wid n) = r at *
  obtain ⟨xs, p1, e1⟩ := r
  simp only at *
  have hm8 : m ≤ 8 := by omega
  have Hlen := Lib.hid hlen
  have Hr := Lib.hid hr
  have Hp := Lib.hid (And.intro h1 hk)
  clear hle hlen hr h1 hk h h8 hA
  go_wp2_with fail
  go_loop [5, 13] (fun v i => ∃ k : Nat, k ≤ m ∧ i = .int .i64 k ∧ v = .int .u64 (leNum (xs.take k))) (fun _ i => (m - intOf i).toNat)
  case atStart => exact ⟨0, by omega, rfl, rfl⟩
  case round =>
    obtain ⟨k, hkm, rfl, rfl⟩ := hrel
    by_cases hlt : k < m
    · obtain ⟨b, o, rfl, hbl, hcell⟩ := Hr.out.at_ k hlt
      have hkl : k < xs.length := by rw [Hlen.out]; exact hlt
      have hbd := Hby.out _ (getD_mem hkl)
      have htk : leNum (xs.take (k + 1)) = leNum (xs.take k) + (xs.getD k 0).toNat * 256 ^ k := by
        rw [List.take_succ_eq_append_getElem hkl, leNum_snoc, List.length_take, Nat.min_eq_left (by omega), List.getD_eq_getElem?_getD, List.getElem?_eq_getElem hkl, Option.getD_some]
      have hlt2 := leNum_lt (xs.take k) (fun c hc => Hby.out c (List.mem_of_mem_take hc))
      rw [List.length_take, Nat.min_eq_left (by omega)] at hlt2
      generalize xs.getD k 0 = cc at *
      obtain ⟨x, rfl⟩ := Int.eq_ofNat_of_zero_le hbd.1
      have hx : x < 256 := by omega
      rw [Int.toNat_natCast] at htk
      have hor := or_le (leNum (xs.take k)) x k (by omega) hx hlt2
      rw [← htk] at hor
      have Hor := Lib.hid hor
      clear hor htk hlt2 hbd hkl
      go_wp2_with fail
      go_round
      case rel => exact ⟨k + 1, by omega, by go_num, by rw [Hor.out]⟩
      case measure => simp [intOf]; omega
    · obtain rfl : k = m := by omega
      have hall : xs.take k = xs := List.take_of_length_le (by rw [Hlen.out]; omega)
      rw [hall]
      go_wp2_with fail
      go_ret
      exact ⟨rfl, Hp.out.1, Hp.out.2⟩


set_option maxHeartbeats 400000 in
theorem nrLittle_nil (n : Int) : Calls Try.prog 65 #[.pointer none, .int .i64 n] w fun e w' => e = .returned (.int .u64 0) ∧ w = w' := by
  go_enter Try.func65, Try.ntmps65
  go_wp2_with fail
  refine (nWidth_any n _).mono ?_
  rintro e w' ⟨rfl, rfl⟩
  go_wp2_with fail
  refine (nrTake_nil _ _).mono ?_
  rintro e w' ⟨rfl, rfl⟩
  go_wp2_with fail
  go_loop [5, 13] (fun v i => i = .int .i64 0 ∧ v = .int .u64 0) (fun _ _ => 0)
  case atStart => exact ⟨rfl, rfl⟩
  case round =>
    obtain ⟨rfl, rfl⟩ := hrel
    go_wp2_with fail
    go_ret
    exact ⟨rfl, rfl⟩


theorem nx_fits (h : NRd w g t ext A c bs p err) : (nx bs p err).1 < 18446744073709551616 := by
  unfold nx
  split
  · simp
  · exact (rd_fits (bs.drop p) 0 0 (fun x hx => h.byte x (List.mem_of_mem_drop hx)) (by omega) (by simp)).1


end

set_option maxHeartbeats 800000 in
/-- New: a reader of a copy. -/
theorem nrNew_any (A : Option Addr) (n c : Nat) (xs : List Int) (w : World) (hr : Row w .u8 A n xs) (hb : ∀ c ∈ xs, 0 ≤ c ∧ c < 256) (hn : n ≤ 140737488355328) :
    Calls Try.prog 24 #[.slice A n c] w fun e w' => ∃ g A' c', e = .returned (.pointer (some ⟨g, 0, none⟩)) ∧ NRd w' g 75 [] A' c' xs 0 0 ∧ w.heap.size ≤ g ∧ (∀ b o, A' = some ⟨b, o, none⟩ → w.heap.size ≤ b) ∧ Fresh w w' := by
  obtain ⟨i0, hi, hz0, hz1, hz2⟩ := info_parts Try.infoByteN
  have hlen := hr.len
  have Hlen := Lib.hid hlen
  clear hlen
  go_enter Try.func24, Try.ntmps24
  go_wp2_with (at_builtin; refine wpList_app _ rfl _ _ 22 rfl 5 i0 .u8 1 Try.underlying22 hi hz0 hz1 hz2 (.slice none 0 0) [] rfl (Own.nil _ _ _) A n c xs rfl hr (by unfold maxLen; simp; omega) (by simp; omega) ?_)
  intro v' w' hown hg hat
  have hf : Fresh w w' := (Kept.refl _ _).grown hg (fun k e _ => by cases e)
  obtain ⟨A', c', rfl, hrow, hown'⟩ := hown.row
  have hcap := hown.cap
  have hnew : ∀ b o, A' = some ⟨b, o, none⟩ → b = w.heap.size := by
    intro b o e
    have := hown' b o e
    rcases hat with e' | e'
    · rw [e'] at this; cases this
    · rw [e'] at this; injection this with this; exact this.symm
  have hlt : ∀ b o, A' = some ⟨b, o, none⟩ → b < w'.heap.size := fun b o e => hown.lt (hown' b o e)
  have hz := hf.size
  have hNR : NRd (w'.alloc (.cells #[.slice A' xs.length c', .int .i64 0, .int .i64 0] 75)) w'.heap.size 75 [] A' c' xs 0 0 := by
    refine ⟨Blk.new _ _ _, hrow.kept ((Kept.refl (fun _ => False) w').alloc _) (fun _ _ _ _ => id), fun b o e _ => ?_, hb, by omega, hcap, by rw [Hlen.out]; exact hn⟩
    have := hlt b o e
    omega
  have HNR := Lib.hid hNR
  have hkA : Fresh w (w'.alloc (.cells #[.slice A' xs.length c', .int .i64 0, .int .i64 0] 75)) := hf.alloc _
  have HkA := Lib.hid (And.intro hkA hnew)
  clear hown hat hown' hrow hlt hNR hkA hnew hg
  go_wp2_with fail
  go_ret
  exact ⟨w'.heap.size, A', c', rfl, HNR.out, hz, fun b o e => by have := HkA.out.2 b o e; omega, HkA.out.1⟩

end Go.Proofs.Ythfifpapkknodaa

/- The contract of valisehelp.Bytes: two texts of bytes are alike just if their bytes are. -/
namespace Go.Proofs.Ythfifpapkknodaa
open Go.RowKit

theorem row_string {w : World} {A : Option Addr} {n : Nat} {xs : List Int} (h : Row w .u8 A n xs) (c : Nat) :
    (convert 22 9 (.slice A n c)).run Try.prog w = .ok (.string (strOfNums xs)) w := by
  rcases Nat.eq_zero_or_pos n with h0 | h0
  · subst h0
    have hx : xs = [] := List.eq_nil_of_length_eq_zero h.len
    subst hx
    rw [run_convert_bytes_string w 22 9 5 A 0 c Try.underlying22 Try.underlying5 Try.underlying9]
    cases A <;> simp [Conv.bytesToString, loadCells]
    all_goals rfl
  · obtain ⟨b, o, rfl, _, _⟩ := h.at_ 0 h0
    refine run_convert_bytes_arg w 22 5 Try.underlying22 Try.underlying5 b o n c xs h.len (fun i hi => ?_) 9 Try.underlying9
    obtain ⟨b', o', e, _, hc⟩ := h.at_ i hi
    injection e with e
    injection e with e1 e2
    subst e1; subst e2
    exact hc

theorem strOfNums_inj {xs ys : List Int} (hx : ∀ c ∈ xs, 0 ≤ c ∧ c < 256) (hy : ∀ c ∈ ys, 0 ≤ c ∧ c < 256) (h : (strOfNums xs).toList = (strOfNums ys).toList) : xs = ys := by
  have e : xs.map (fun n => UInt8.ofNat n.toNat) = ys.map (fun n => UInt8.ofNat n.toNat) := by
    rw [Lib.strOfNums_toList, Lib.strOfNums_toList] at h; exact h
  have back : ∀ l : List Int, (∀ c ∈ l, 0 ≤ c ∧ c < 256) → (l.map (fun n => UInt8.ofNat n.toNat)).map (fun u => (u.toNat : Int)) = l := by
    intro l hl
    rw [List.map_map]
    conv => rhs; rw [← List.map_id l]
    apply List.map_congr_left
    intro x hx
    have := hl x hx
    simp only [Function.comp, UInt8.toNat_ofNat', id]
    omega
  rw [← back xs hx, ← back ys hy, e]

theorem str_dec {xs ys : List Int} (hx : ∀ c ∈ xs, 0 ≤ c ∧ c < 256) (hy : ∀ c ∈ ys, 0 ≤ c ∧ c < 256) : ((strOfNums xs).toList == (strOfNums ys).toList) = decide (xs = ys) := by
  by_cases h : xs = ys
  · subst h; simp
  · rw [decide_eq_false h]
    rw [beq_eq_false_iff_ne]
    exact fun e => h (strOfNums_inj hx hy e)

set_option maxHeartbeats 400000 in
theorem hBytes_any (A B : Option Addr) (n m c d : Nat) (xs ys : List Int) (w : World) (ha : Row w .u8 A n xs) (hb : Row w .u8 B m ys) (hx : ∀ c ∈ xs, 0 ≤ c ∧ c < 256) (hy : ∀ c ∈ ys, 0 ≤ c ∧ c < 256) :
    Calls Try.prog 12 #[.slice A n c, .slice B m d] w fun e w' => e = .returned (.bool (decide (xs = ys))) ∧ w = w' := by
  have h1 := row_string ha c
  have h2 := row_string hb d
  have hd := str_dec hx hy
  have Hd := Lib.hid hd
  clear ha hb hx hy hd
  go_enter Try.func12, Try.ntmps12
  go_wp2
  go_ret
  exact ⟨ret_bool (by rw [← Hd.out]), rfl⟩

end Go.Proofs.Ythfifpapkknodaa

/- The code's head of a BMP file. -/
namespace Go.Proofs.Ythfifpapkknodaa
open Go.RowKit
set_option maxRecDepth 100000

attribute [local go_sem ↓] Go.wp_at_zero Go.wp_at_succ

/-- What the head of a BMP file tells. -/
def bmpH (l : List Int) : Option (Nat × Nat × Nat × Nat × Nat) :=
  if hdB l ∧ okB (leAt l 10 4) (leAt l 14 4) (leAt l 26 2) (leAt l 28 2) (leAt l 30 4) then some (leAt l 18 4, amt4 (leAt l 22 4), plnB (leAt l 28 2), strB (leAt l 18 4) (plnB (leAt l 28 2)), leAt l 10 4) else none
theorem bmpP_fit (l : List Int) : bmpP l = fitO l.length (bmpH l) := by
  unfold bmpP bmpH
  split
  · rfl
  · rfl
theorem bmpH_ok {l : List Int} (h8 : B8 l) {r : Nat × Nat × Nat × Nat × Nat} (h : bmpH l = some r) : okH r := by
  unfold bmpH at h
  split at h
  · rename_i hc
    injection h with h
    subst h
    have h54 := hc.1.1
    have b10 := leAt_lt h8 (p := 10) (k := 4) (by omega)
    have b18 := leAt_lt h8 (p := 18) (k := 4) (by omega)
    have hp : plnB (leAt l 28 2) ≤ 3 := by unfold plnB; split <;> omega
    refine ⟨hp, ?_, by simp only []; omega⟩
    simp only []
    unfold strB
    have := Nat.mul_le_mul (show leAt l 18 4 ≤ 4294967296 by omega) hp
    omega
  · cases h

/-- Two bytes, held against a text. -/
theorem is_two {ys : List Int} (a b : Nat) (ha : a < 256) (hb : b < 256) (l : List UInt8) (hl : (strOfNums [(a : Int), (b : Int)]).toList = l) (hy : ∀ c ∈ ys, 0 ≤ c ∧ c < 256) : ((strOfNums ys).toList == l) = decide (ys = [(a : Int), (b : Int)]) := by
  rw [← hl]
  exact str_dec hy (fun c hc => by simp at hc; omega)
theorem slc_two {l : List Int} (h : 2 ≤ l.length) (a b : Int) : slc l 0 2 = [a, b] ↔ l.getD 0 0 = a ∧ l.getD 1 0 = b := by
  match l, h with
  | x :: y :: r, _ => simp [slc]
theorem slc_cut {l : List Int} {n p k : Nat} (h : p + k ≤ n) : slc (l.take n) p k = slc l p k := by
  unfold slc
  rw [List.drop_take, List.take_take, Nat.min_eq_left (by omega)]
theorem getD_cut {l : List Int} {n p : Nat} (h : p < n) : (l.take n).getD p 0 = l.getD p 0 := by
  rw [List.getD_eq_getElem?_getD, List.getD_eq_getElem?_getD, List.getElem?_take_of_lt h]
theorem bmpH_cut (l : List Int) : bmpH (l.take 54) = bmpH l := by
  have hh : hdB (l.take 54) ↔ hdB l := by
    unfold hdB
    rw [List.length_take, getD_cut (by omega), getD_cut (by omega)]
    omega
  unfold bmpH leAt
  rw [slc_cut (by omega), slc_cut (by omega), slc_cut (by omega), slc_cut (by omega), slc_cut (by omega), slc_cut (by omega), slc_cut (by omega)]
  simp only [hh]

section
variable (g : Nat) (t : TypeId) (ext : List Value) (A : Option Addr) (c : Nat) (bs : List Int) (p : Nat) (err : Int) (w : World)
theorem tk_in {bs : List Int} {p n : Nat} (h : p + n ≤ bs.length) : tk bs p 0 n = (slc bs p n, p + n, 0) := by
  unfold tk; rw [if_neg (by simp), if_pos (by omega)]; rfl
/-- A reading that is whole. -/
theorem rRaw_ok (n : Int) (k : Nat) (hk : n = k) (hp : p + k ≤ bs.length) (h : NRd w g t ext A c bs p 0) :
    Calls Try.prog 59 #[.pointer (some ⟨g, 0, none⟩), .int .i64 n] w fun e w' => ∃ A' m d, e = .returned (.slice A' m d) ∧ Row w' .u8 A' m (slc bs p k) ∧ NRd w' g t ext A c bs (p + k) 0 ∧ Mine g w w' := by
  subst hk
  have hs := h.small
  have h1 := nrRaw_any g t ext A c bs p 0 w k (by omega) h
  rw [Int.toNat_natCast, tk_in hp] at h1
  refine h1.mono ?_
  rintro e w' ⟨u, rfl, ho, _, hr, hm⟩
  obtain ⟨A', d, rfl, hrow, _⟩ := ho.row
  exact ⟨A', _, d, rfl, hrow, hr, hm⟩
theorem rLit_ok (n : Int) (k : Nat) (hk : n = k) (hk8 : k ≤ 8) (hp : p + k ≤ bs.length) (h : NRd w g t ext A c bs p 0) :
    Calls Try.prog 65 #[.pointer (some ⟨g, 0, none⟩), .int .i64 n] w fun e w' => e = .returned (.int .u64 (leAt bs p k : Nat)) ∧ NRd w' g t ext A c bs (p + k) 0 ∧ Mine g w w' := by
  subst hk
  have h1 := nrLittle_any g t ext A c bs p 0 w k h
  rw [show wid (k : Int) = k from by unfold wid; omega, tk_in hp] at h1
  exact h1
/-- A reading that may be cut off. -/
def Cutt (S : Nat) (p : Nat) (err : Int) : Prop := err ≠ 0 ∨ p = S
theorem tk_cutt {bs : List Int} {p S : Nat} {err : Int} (n : Nat) (h : Cutt S p err) : Cutt (S + n) (tk bs p err n).2.1 (tk bs p err n).2.2 := by
  unfold tk Cutt at *
  rcases h with h | h
  · rw [if_pos h]; exact .inl h
  · split
    · rename_i h2; exact .inl h2
    split
    · exact .inr (by simp only []; omega)
    · exact .inl (by simp)
theorem rRaw_cut (S : Nat) (n : Int) (k : Nat) (hk : n = k) (hk2 : k ≤ 100) (hq : Cutt S p err) (h : NRd w g t ext A c bs p err) :
    Calls Try.prog 59 #[.pointer (some ⟨g, 0, none⟩), .int .i64 n] w fun e w' => ∃ A' m d ys p' err', e = .returned (.slice A' m d) ∧ Row w' .u8 A' m ys ∧ NRd w' g t ext A c bs p' err' ∧ Cutt (S + k) p' err' ∧ Mine g w w' := by
  subst hk
  have h1 := nrRaw_any g t ext A c bs p err w k (by omega) h
  rw [Int.toNat_natCast] at h1
  refine h1.mono ?_
  rintro e w' ⟨u, rfl, ho, _, hr, hm⟩
  obtain ⟨A', d, rfl, hrow, _⟩ := ho.row
  exact ⟨A', _, d, _, _, _, rfl, hrow, hr, tk_cutt k hq, hm⟩
theorem rLit_cut (S : Nat) (n : Int) (k : Nat) (hk : n = k) (hk8 : k ≤ 4) (hq : Cutt S p err) (h : NRd w g t ext A c bs p err) :
    Calls Try.prog 65 #[.pointer (some ⟨g, 0, none⟩), .int .i64 n] w fun e w' => ∃ x p' err', e = .returned (.int .u64 (x : Nat)) ∧ x < 4294967296 ∧ NRd w' g t ext A c bs p' err' ∧ Cutt (S + k) p' err' ∧ Mine g w w' := by
  subst hk
  have h1 := nrLittle_any g t ext A c bs p err w k h
  rw [show wid (k : Int) = k from by unfold wid; omega] at h1
  refine h1.mono ?_
  rintro e w' ⟨rfl, hr, hm⟩
  have hl := tk_len_le bs p err k
  have h2 := leNum_lt _ (tk_byte bs p err k h.byte)
  have h3 : 256 ^ (tk bs p err k).1.length ≤ 256 ^ 4 := Nat.pow_le_pow_right (by decide) (by omega)
  exact ⟨_, _, _, rfl, by omega, hr, tk_cutt k hq, hm⟩
end

/-- Amid a head: what is to be told, the parser, its reader. -/
structure BS (w : World) (g R : Nat) (A : Option Addr) (c : Nat) (bs : List Int) (p : Nat) (err : Int) (W : World) : Prop where
  res : Blk W w.heap.size 77 #[.int .u64 0, .int .u64 0, .int .u64 0, .int .u64 0, .int .u64 0]
  blk : Blk W g 101 #[.pointer (some ⟨R, 0, none⟩)]
  rd : NRd W R 75 [] A c bs p err
  fr : Kept (fun k => k = R) w W
  lt : R < w.heap.size
theorem BS.step {w W V : World} {g R : Nat} {A : Option Addr} {c : Nat} {bs : List Int} {p p' : Nat} {err err' : Int} (h : BS w g R A c bs p err W) (hr : NRd V R 75 [] A c bs p' err') (hk : Mine R W V) : BS w g R A c bs p' err' V :=
  ⟨h.res.kept hk (fun e => absurd h.lt (by rw [← e]; exact Nat.lt_irrefl _)), h.blk.kept hk (h.blk.ne_ h.rd.blk (by decide)), hr, h.fr.trans hk (fun _ _ e => e), h.lt⟩
theorem BS.c0 {w W : World} {g R : Nat} {A : Option Addr} {c : Nat} {bs : List Int} {p : Nat} {err : Int} (h : BS w g R A c bs p err W) : W.cell? ⟨g, 0, none⟩ = some (.pointer (some ⟨R, 0, none⟩)) := (h.blk.cell 0).trans rfl
theorem set5k {S : Nat → Prop} {w W : World} (h : Kept S w W) (a b c d e : Value) : Kept S w (((((W.setCell ⟨w.heap.size, 0, none⟩ a).setCell ⟨w.heap.size, 1, none⟩ b).setCell ⟨w.heap.size, 2, none⟩ c).setCell ⟨w.heap.size, 3, none⟩ d).setCell ⟨w.heap.size, 4, none⟩ e) :=
  ((((h.setCell (p := ⟨w.heap.size, 0, none⟩) (fun e => absurd e (Nat.lt_irrefl _)) a).setCell (p := ⟨w.heap.size, 1, none⟩) (fun e => absurd e (Nat.lt_irrefl _)) b).setCell (p := ⟨w.heap.size, 2, none⟩) (fun e => absurd e (Nat.lt_irrefl _)) c).setCell (p := ⟨w.heap.size, 3, none⟩) (fun e => absurd e (Nat.lt_irrefl _)) d).setCell (p := ⟨w.heap.size, 4, none⟩) (fun e => absurd e (Nat.lt_irrefl _)) e

theorem strU_w (a p : Nat) (h : a < 4294967296) (hp : p ≤ 3) : IntKind.u64.wrap (IntKind.u64.wrap ((IntKind.u64.wrap (IntKind.u64.wrap ((a : Int) * (p : Int)) + 3)).tdiv 4) * 4) = ((strB a p : Nat) : Int) := by
  obtain ⟨m, hm⟩ : ∃ m, m = a * p := ⟨_, rfl⟩
  have e : (a : Int) * (p : Int) = (m : Int) := by rw [hm]; simp
  have hm1 : m ≤ 4294967296 * 3 := by rw [hm]; exact Nat.mul_le_mul (by omega) hp
  unfold strB
  rw [← hm, e, IntWalk.u64_in (m : Int) (by omega), IntWalk.u64_in ((m : Int) + 3) (by omega), Int.tdiv_eq_ediv_of_nonneg (by omega), IntWalk.u64_in (((m : Int) + 3) / 4) (by omega), IntWalk.u64_in _ (by omega)]
  omega

set_option maxHeartbeats 1600000 in
theorem cBmpHead_ok (g R : Nat) (A : Option Addr) (c : Nat) (bs : List Int) (w : World) (h54 : 54 ≤ bs.length) (h0 : Blk w g 101 #[.pointer (some ⟨R, 0, none⟩)]) (h1 : NRd w R 75 [] A c bs 0 0) :
    Calls Try.prog 45 #[.pointer (some ⟨g, 0, none⟩)] w fun e w' => e = .returned (hval (bmpH bs)) ∧ Kept (fun k => k = R) w w' := by
  have H0 : Hid (BS w g R A c bs 0 0 (w.alloc (.cells #[.int .u64 0, .int .u64 0, .int .u64 0, .int .u64 0, .int .u64 0] 77))) := Lib.hid ⟨Blk.new _ _ _, h0.alloc _, h1.kept ((Kept.refl (fun _ => False) w).alloc _) id (fun _ _ _ _ => id), (Kept.refl _ _).alloc _, h1.blk.lt⟩
  have H8 := Lib.hid h1.byte
  have HL := Lib.hid h54
  clear h0 h1 h54
  generalize hW0 : w.alloc (.cells #[.int .u64 0, .int .u64 0, .int .u64 0, .int .u64 0, .int .u64 0] 77) = W0 at *
  have c0 := H0.out.c0
  go_enter Try.func45, Try.ntmps45
  go_wp2_with fail
  clear hW0
  -- 0
  refine (rRaw_ok R _ [] A c bs 0 _ 2 2 rfl (by have := HL.out; omega) H0.out.rd).mono ?_
  rintro e w1 ⟨A0, m0, d0, rfl, hrow, hr, hk⟩
  have s0 := row_string hrow d0
  have e0 := is_two 66 77 (by omega) (by omega) [66, 77] (by rw [Lib.strOfNums_toList]; decide) (slc_byte 0 2 H8.out)
  have HT := Lib.hid (slc_two (l := bs) (by have := HL.out; omega) 66 77)
  generalize slc bs 0 2 = ys at *
  have K1 := Lib.hid (H0.out.step hr hk)
  have c0 := K1.out.c0
  clear H0 hr hk hrow
  go_wp2_with fail
  -- 1
  refine (rRaw_ok R _ [] A c bs 2 _ 8 8 rfl (by have := HL.out; omega) K1.out.rd).mono ?_
  rintro e w2 ⟨A1, m1, d1, rfl, hrow, hr, hk⟩
  have K2 := Lib.hid (K1.out.step hr hk)
  have c0 := K2.out.c0
  clear K1 hr hk hrow
  go_wp2_with fail
  -- 2
  refine (rLit_ok R _ [] A c bs 10 _ 4 4 rfl (by omega) (by have := HL.out; omega) K2.out.rd).mono ?_
  rintro e w3 ⟨rfl, hr, hk⟩
  have B2 : Hid (leAt bs 10 4 < 4294967296) := Lib.hid (Nat.lt_of_lt_of_le (leAt_lt H8.out (p := 10) (k := 4) (by have := HL.out; omega)) (by decide))
  obtain ⟨x10, q2⟩ : ∃ x10, x10 = leAt bs 10 4 := ⟨_, rfl⟩
  rw [← q2] at B2 ⊢
  have E2 := Lib.hid q2
  clear q2
  have K3 := Lib.hid (K2.out.step hr hk)
  have c0 := K3.out.c0
  clear K2 hr hk
  go_wp2_with fail
  -- 3
  refine (rLit_ok R _ [] A c bs 14 _ 4 4 rfl (by omega) (by have := HL.out; omega) K3.out.rd).mono ?_
  rintro e w4 ⟨rfl, hr, hk⟩
  have B3 : Hid (leAt bs 14 4 < 4294967296) := Lib.hid (Nat.lt_of_lt_of_le (leAt_lt H8.out (p := 14) (k := 4) (by have := HL.out; omega)) (by decide))
  obtain ⟨x14, q3⟩ : ∃ x14, x14 = leAt bs 14 4 := ⟨_, rfl⟩
  rw [← q3] at B3 ⊢
  have E3 := Lib.hid q3
  clear q3
  have K4 := Lib.hid (K3.out.step hr hk)
  have c0 := K4.out.c0
  clear K3 hr hk
  go_wp2_with fail
  -- 4
  refine (rLit_ok R _ [] A c bs 18 _ 4 4 rfl (by omega) (by have := HL.out; omega) K4.out.rd).mono ?_
  rintro e w5 ⟨rfl, hr, hk⟩
  have B4 : Hid (leAt bs 18 4 < 4294967296) := Lib.hid (Nat.lt_of_lt_of_le (leAt_lt H8.out (p := 18) (k := 4) (by have := HL.out; omega)) (by decide))
  obtain ⟨x18, q4⟩ : ∃ x18, x18 = leAt bs 18 4 := ⟨_, rfl⟩
  rw [← q4] at B4 ⊢
  have E4 := Lib.hid q4
  clear q4
  have K5 := Lib.hid (K4.out.step hr hk)
  have c0 := K5.out.c0
  clear K4 hr hk
  go_wp2_with fail
  -- 5
  refine (rLit_ok R _ [] A c bs 22 _ 4 4 rfl (by omega) (by have := HL.out; omega) K5.out.rd).mono ?_
  rintro e w6 ⟨rfl, hr, hk⟩
  have B5 : Hid (leAt bs 22 4 < 4294967296) := Lib.hid (Nat.lt_of_lt_of_le (leAt_lt H8.out (p := 22) (k := 4) (by have := HL.out; omega)) (by decide))
  obtain ⟨x22, q5⟩ : ∃ x22, x22 = leAt bs 22 4 := ⟨_, rfl⟩
  rw [← q5] at B5 ⊢
  have E5 := Lib.hid q5
  clear q5
  have K6 := Lib.hid (K5.out.step hr hk)
  have c0 := K6.out.c0
  clear K5 hr hk
  go_wp2_with fail
  refine (cAmount_any x22 _ B5.out).mono ?_
  rintro e wz ⟨rfl, rfl⟩
  obtain ⟨ah, hah⟩ : ∃ ah, ah = amt4 x22 := ⟨_, rfl⟩
  rw [← hah]
  have Hah := Lib.hid hah
  clear hah
  go_wp2_with fail
  -- 6
  refine (rLit_ok R _ [] A c bs 26 _ 2 2 rfl (by omega) (by have := HL.out; omega) K6.out.rd).mono ?_
  rintro e w7 ⟨rfl, hr, hk⟩
  have B6 : Hid (leAt bs 26 2 < 4294967296) := Lib.hid (Nat.lt_of_lt_of_le (leAt_lt H8.out (p := 26) (k := 2) (by have := HL.out; omega)) (by decide))
  obtain ⟨x26, q6⟩ : ∃ x26, x26 = leAt bs 26 2 := ⟨_, rfl⟩
  rw [← q6] at B6 ⊢
  have E6 := Lib.hid q6
  clear q6
  have K7 := Lib.hid (K6.out.step hr hk)
  have c0 := K7.out.c0
  clear K6 hr hk
  go_wp2_with fail
  -- 7
  refine (rLit_ok R _ [] A c bs 28 _ 2 2 rfl (by omega) (by have := HL.out; omega) K7.out.rd).mono ?_
  rintro e w8 ⟨rfl, hr, hk⟩
  have B7 : Hid (leAt bs 28 2 < 4294967296) := Lib.hid (Nat.lt_of_lt_of_le (leAt_lt H8.out (p := 28) (k := 2) (by have := HL.out; omega)) (by decide))
  obtain ⟨x28, q7⟩ : ∃ x28, x28 = leAt bs 28 2 := ⟨_, rfl⟩
  rw [← q7] at B7 ⊢
  have E7 := Lib.hid q7
  clear q7
  have K8 := Lib.hid (K7.out.step hr hk)
  have c0 := K8.out.c0
  clear K7 hr hk
  go_wp2_with fail
  refine (cPlanesOf_any x28 _).mono ?_
  rintro e wz ⟨rfl, rfl⟩
  obtain ⟨pl, hpl⟩ : ∃ pl, pl = plnC x28 := ⟨_, rfl⟩
  rw [← hpl]
  have Hpl := Lib.hid hpl
  clear hpl
  go_wp2_with fail
  -- 8
  refine (rLit_ok R _ [] A c bs 30 _ 4 4 rfl (by omega) (by have := HL.out; omega) K8.out.rd).mono ?_
  rintro e w9 ⟨rfl, hr, hk⟩
  have B8 : Hid (leAt bs 30 4 < 4294967296) := Lib.hid (Nat.lt_of_lt_of_le (leAt_lt H8.out (p := 30) (k := 4) (by have := HL.out; omega)) (by decide))
  obtain ⟨x30, q8⟩ : ∃ x30, x30 = leAt bs 30 4 := ⟨_, rfl⟩
  rw [← q8] at B8 ⊢
  have E8 := Lib.hid q8
  clear q8
  have K9 := Lib.hid (K8.out.step hr hk)
  have c0 := K9.out.c0
  clear K8 hr hk
  go_wp2_with fail
  -- 9
  refine (rRaw_ok R _ [] A c bs 34 _ 20 20 rfl (by have := HL.out; omega) K9.out.rd).mono ?_
  rintro e w10 ⟨A9, m9, d9, rfl, hrow, hr, hk⟩
  have K10 := Lib.hid (K9.out.step hr hk)
  have c0 := K10.out.c0
  clear K9 hr hk hrow
  go_wp2_with fail
  refine (nrErr_any R _ [] A c bs 54 0 _ K10.out.rd).mono ?_
  rintro e wz ⟨rfl, rfl⟩
  have HB : Hid (bmpH bs = if ys = [((66 : Nat) : Int), ((77 : Nat) : Int)] ∧ okB x10 x14 x26 x28 x30 then some (x18, ah, plnB x28, strB x18 (plnB x28), x10) else none) := Lib.hid (by
    unfold bmpH
    rw [← E2.out, ← E3.out, ← E4.out, ← E5.out, ← E6.out, ← E7.out, ← E8.out, ← Hah.out]
    have hh : hdB bs ↔ ys = [((66 : Nat) : Int), ((77 : Nat) : Int)] := by
      rw [show (((66 : Nat) : Int)) = 66 from rfl, show (((77 : Nat) : Int)) = 77 from rfl, HT.out]
      exact ⟨fun h => h.2, fun h => ⟨HL.out, h⟩⟩
    simp only [hh])
  by_cases hk : ys = [((66 : Nat) : Int), ((77 : Nat) : Int)]
  · rw [decide_eq_true hk] at e0
    have HK := Lib.hid hk
    clear hk
    by_cases g1 : 54 ≤ x10
    · have g1' : ¬ (x10 : Int) < 54 := by omega
      by_cases g2 : 40 ≤ x14
      · have g2' : ¬ (x14 : Int) < 40 := by omega
        by_cases g3 : x26 = 1
        · have g3' : ((x26 : Int) != 1) = false := by simp; omega
          by_cases g4 : x28 = 24 ∨ x28 = 8
          · obtain ⟨pn, hpn⟩ : ∃ pn, pn = plnB x28 := ⟨_, rfl⟩
            have hp2 : pl = (pn : Int) ∧ 1 ≤ pn ∧ pn ≤ 3 := by
              rw [Hpl.out, hpn]
              unfold plnB plnC
              rcases g4 with e | e <;> subst e <;> decide
            obtain ⟨rfl, hp3, hp4⟩ := hp2
            have g4' : ((pn : Int) == 0) = false := by simp; omega
            by_cases g5 : x30 = 0
            · have g5' : ((x30 : Int) != 0) = false := by simp; omega
              have HQ : Hid (bmpH bs = some (x18, ah, pn, strB x18 pn, x10)) := Lib.hid (by rw [HB.out, if_pos ⟨HK.out, g1, g2, g3, g4, g5⟩, hpn])
              obtain ⟨st, hst⟩ : ∃ st, st = strB x18 pn := ⟨_, rfl⟩
              have HP := Lib.hid (And.intro hp3 hp4)
              have HW := Lib.hid (strU_w x18 pn B4.out hp4)
              rw [← hst] at HQ HW
              clear g1 g2 g3 g4 g5 hst hpn hp3 hp4
              have rz0 : w10.cell? ⟨w.heap.size, 0, none⟩ = some (.int .u64 0) := (K10.out.res.cell 0).trans rfl
              have rzf0 : w10.frozen? ⟨w.heap.size, 0, none⟩ = false := K10.out.res.frozen 0
              have rz1 : w10.cell? ⟨w.heap.size, 1, none⟩ = some (.int .u64 0) := (K10.out.res.cell 1).trans rfl
              have rzf1 : w10.frozen? ⟨w.heap.size, 1, none⟩ = false := K10.out.res.frozen 1
              have rz2 : w10.cell? ⟨w.heap.size, 2, none⟩ = some (.int .u64 0) := (K10.out.res.cell 2).trans rfl
              have rzf2 : w10.frozen? ⟨w.heap.size, 2, none⟩ = false := K10.out.res.frozen 2
              have rz3 : w10.cell? ⟨w.heap.size, 3, none⟩ = some (.int .u64 0) := (K10.out.res.cell 3).trans rfl
              have rzf3 : w10.frozen? ⟨w.heap.size, 3, none⟩ = false := K10.out.res.frozen 3
              have rz4 : w10.cell? ⟨w.heap.size, 4, none⟩ = some (.int .u64 0) := (K10.out.res.cell 4).trans rfl
              have rzf4 : w10.frozen? ⟨w.heap.size, 4, none⟩ = false := K10.out.res.frozen 4
              go_wp2_with fail
              rw [HW.out]
              refine bodyPost_ret (v := hval (some (x18, ah, pn, st, x10))) (by simp [results, Try.f45, go_sem, hval, rz0, rz1, rz2, rz3, rz4]) rfl ?_
              exact ⟨by rw [HQ.out], set5k K10.out.fr _ _ _ _ _⟩
            · have g5' : ((x30 : Int) != 0) = true := by simp; omega
              have HQ : Hid (bmpH bs = none) := Lib.hid (by rw [HB.out, if_neg (fun h => g5 h.2.2.2.2.2)])
              have rz0 : w10.cell? ⟨w.heap.size, 0, none⟩ = some (.int .u64 0) := (K10.out.res.cell 0).trans rfl
              have rzf0 : w10.frozen? ⟨w.heap.size, 0, none⟩ = false := K10.out.res.frozen 0
              have rz1 : w10.cell? ⟨w.heap.size, 1, none⟩ = some (.int .u64 0) := (K10.out.res.cell 1).trans rfl
              have rzf1 : w10.frozen? ⟨w.heap.size, 1, none⟩ = false := K10.out.res.frozen 1
              have rz2 : w10.cell? ⟨w.heap.size, 2, none⟩ = some (.int .u64 0) := (K10.out.res.cell 2).trans rfl
              have rzf2 : w10.frozen? ⟨w.heap.size, 2, none⟩ = false := K10.out.res.frozen 2
              have rz3 : w10.cell? ⟨w.heap.size, 3, none⟩ = some (.int .u64 0) := (K10.out.res.cell 3).trans rfl
              have rzf3 : w10.frozen? ⟨w.heap.size, 3, none⟩ = false := K10.out.res.frozen 3
              have rz4 : w10.cell? ⟨w.heap.size, 4, none⟩ = some (.int .u64 0) := (K10.out.res.cell 4).trans rfl
              have rzf4 : w10.frozen? ⟨w.heap.size, 4, none⟩ = false := K10.out.res.frozen 4
              go_wp2_with fail
              refine bodyPost_ret (v := hval none) (by simp [results, Try.f45, go_sem, hval, rz0, rz1, rz2, rz3, rz4]) rfl ?_
              exact ⟨by rw [HQ.out], set5k K10.out.fr _ _ _ _ _⟩
          · have hp2 : pl = 0 := by
              rw [Hpl.out]
              unfold plnC
              rw [if_neg (by omega), if_neg (by omega)]
            subst hp2
            have HQ : Hid (bmpH bs = none) := Lib.hid (by rw [HB.out, if_neg (fun h => g4 h.2.2.2.2.1)])
            have rz0 : w10.cell? ⟨w.heap.size, 0, none⟩ = some (.int .u64 0) := (K10.out.res.cell 0).trans rfl
            have rzf0 : w10.frozen? ⟨w.heap.size, 0, none⟩ = false := K10.out.res.frozen 0
            have rz1 : w10.cell? ⟨w.heap.size, 1, none⟩ = some (.int .u64 0) := (K10.out.res.cell 1).trans rfl
            have rzf1 : w10.frozen? ⟨w.heap.size, 1, none⟩ = false := K10.out.res.frozen 1
            have rz2 : w10.cell? ⟨w.heap.size, 2, none⟩ = some (.int .u64 0) := (K10.out.res.cell 2).trans rfl
            have rzf2 : w10.frozen? ⟨w.heap.size, 2, none⟩ = false := K10.out.res.frozen 2
            have rz3 : w10.cell? ⟨w.heap.size, 3, none⟩ = some (.int .u64 0) := (K10.out.res.cell 3).trans rfl
            have rzf3 : w10.frozen? ⟨w.heap.size, 3, none⟩ = false := K10.out.res.frozen 3
            have rz4 : w10.cell? ⟨w.heap.size, 4, none⟩ = some (.int .u64 0) := (K10.out.res.cell 4).trans rfl
            have rzf4 : w10.frozen? ⟨w.heap.size, 4, none⟩ = false := K10.out.res.frozen 4
            go_wp2_with fail
            refine bodyPost_ret (v := hval none) (by simp [results, Try.f45, go_sem, hval, rz0, rz1, rz2, rz3, rz4]) rfl ?_
            exact ⟨by rw [HQ.out], set5k K10.out.fr _ _ _ _ _⟩
        · have g3' : ((x26 : Int) != 1) = true := by simp; omega
          have HQ : Hid (bmpH bs = none) := Lib.hid (by rw [HB.out, if_neg (fun h => g3 h.2.2.2.1)])
          have rz0 : w10.cell? ⟨w.heap.size, 0, none⟩ = some (.int .u64 0) := (K10.out.res.cell 0).trans rfl
          have rzf0 : w10.frozen? ⟨w.heap.size, 0, none⟩ = false := K10.out.res.frozen 0
          have rz1 : w10.cell? ⟨w.heap.size, 1, none⟩ = some (.int .u64 0) := (K10.out.res.cell 1).trans rfl
          have rzf1 : w10.frozen? ⟨w.heap.size, 1, none⟩ = false := K10.out.res.frozen 1
          have rz2 : w10.cell? ⟨w.heap.size, 2, none⟩ = some (.int .u64 0) := (K10.out.res.cell 2).trans rfl
          have rzf2 : w10.frozen? ⟨w.heap.size, 2, none⟩ = false := K10.out.res.frozen 2
          have rz3 : w10.cell? ⟨w.heap.size, 3, none⟩ = some (.int .u64 0) := (K10.out.res.cell 3).trans rfl
          have rzf3 : w10.frozen? ⟨w.heap.size, 3, none⟩ = false := K10.out.res.frozen 3
          have rz4 : w10.cell? ⟨w.heap.size, 4, none⟩ = some (.int .u64 0) := (K10.out.res.cell 4).trans rfl
          have rzf4 : w10.frozen? ⟨w.heap.size, 4, none⟩ = false := K10.out.res.frozen 4
          go_wp2_with fail
          refine bodyPost_ret (v := hval none) (by simp [results, Try.f45, go_sem, hval, rz0, rz1, rz2, rz3, rz4]) rfl ?_
          exact ⟨by rw [HQ.out], set5k K10.out.fr _ _ _ _ _⟩
      · have g2' : (x14 : Int) < 40 := by omega
        have HQ : Hid (bmpH bs = none) := Lib.hid (by rw [HB.out, if_neg (fun h => g2 h.2.2.1)])
        have rz0 : w10.cell? ⟨w.heap.size, 0, none⟩ = some (.int .u64 0) := (K10.out.res.cell 0).trans rfl
        have rzf0 : w10.frozen? ⟨w.heap.size, 0, none⟩ = false := K10.out.res.frozen 0
        have rz1 : w10.cell? ⟨w.heap.size, 1, none⟩ = some (.int .u64 0) := (K10.out.res.cell 1).trans rfl
        have rzf1 : w10.frozen? ⟨w.heap.size, 1, none⟩ = false := K10.out.res.frozen 1
        have rz2 : w10.cell? ⟨w.heap.size, 2, none⟩ = some (.int .u64 0) := (K10.out.res.cell 2).trans rfl
        have rzf2 : w10.frozen? ⟨w.heap.size, 2, none⟩ = false := K10.out.res.frozen 2
        have rz3 : w10.cell? ⟨w.heap.size, 3, none⟩ = some (.int .u64 0) := (K10.out.res.cell 3).trans rfl
        have rzf3 : w10.frozen? ⟨w.heap.size, 3, none⟩ = false := K10.out.res.frozen 3
        have rz4 : w10.cell? ⟨w.heap.size, 4, none⟩ = some (.int .u64 0) := (K10.out.res.cell 4).trans rfl
        have rzf4 : w10.frozen? ⟨w.heap.size, 4, none⟩ = false := K10.out.res.frozen 4
        go_wp2_with fail
        refine bodyPost_ret (v := hval none) (by simp [results, Try.f45, go_sem, hval, rz0, rz1, rz2, rz3, rz4]) rfl ?_
        exact ⟨by rw [HQ.out], set5k K10.out.fr _ _ _ _ _⟩
    · have g1' : (x10 : Int) < 54 := by omega
      have HQ : Hid (bmpH bs = none) := Lib.hid (by rw [HB.out, if_neg (fun h => g1 h.2.1)])
      have rz0 : w10.cell? ⟨w.heap.size, 0, none⟩ = some (.int .u64 0) := (K10.out.res.cell 0).trans rfl
      have rzf0 : w10.frozen? ⟨w.heap.size, 0, none⟩ = false := K10.out.res.frozen 0
      have rz1 : w10.cell? ⟨w.heap.size, 1, none⟩ = some (.int .u64 0) := (K10.out.res.cell 1).trans rfl
      have rzf1 : w10.frozen? ⟨w.heap.size, 1, none⟩ = false := K10.out.res.frozen 1
      have rz2 : w10.cell? ⟨w.heap.size, 2, none⟩ = some (.int .u64 0) := (K10.out.res.cell 2).trans rfl
      have rzf2 : w10.frozen? ⟨w.heap.size, 2, none⟩ = false := K10.out.res.frozen 2
      have rz3 : w10.cell? ⟨w.heap.size, 3, none⟩ = some (.int .u64 0) := (K10.out.res.cell 3).trans rfl
      have rzf3 : w10.frozen? ⟨w.heap.size, 3, none⟩ = false := K10.out.res.frozen 3
      have rz4 : w10.cell? ⟨w.heap.size, 4, none⟩ = some (.int .u64 0) := (K10.out.res.cell 4).trans rfl
      have rzf4 : w10.frozen? ⟨w.heap.size, 4, none⟩ = false := K10.out.res.frozen 4
      go_wp2_with fail
      refine bodyPost_ret (v := hval none) (by simp [results, Try.f45, go_sem, hval, rz0, rz1, rz2, rz3, rz4]) rfl ?_
      exact ⟨by rw [HQ.out], set5k K10.out.fr _ _ _ _ _⟩
  · rw [decide_eq_false hk] at e0
    have HQ : Hid (bmpH bs = none) := Lib.hid (by rw [HB.out, if_neg (fun h => hk h.1)])
    have rz0 : w10.cell? ⟨w.heap.size, 0, none⟩ = some (.int .u64 0) := (K10.out.res.cell 0).trans rfl
    have rzf0 : w10.frozen? ⟨w.heap.size, 0, none⟩ = false := K10.out.res.frozen 0
    have rz1 : w10.cell? ⟨w.heap.size, 1, none⟩ = some (.int .u64 0) := (K10.out.res.cell 1).trans rfl
    have rzf1 : w10.frozen? ⟨w.heap.size, 1, none⟩ = false := K10.out.res.frozen 1
    have rz2 : w10.cell? ⟨w.heap.size, 2, none⟩ = some (.int .u64 0) := (K10.out.res.cell 2).trans rfl
    have rzf2 : w10.frozen? ⟨w.heap.size, 2, none⟩ = false := K10.out.res.frozen 2
    have rz3 : w10.cell? ⟨w.heap.size, 3, none⟩ = some (.int .u64 0) := (K10.out.res.cell 3).trans rfl
    have rzf3 : w10.frozen? ⟨w.heap.size, 3, none⟩ = false := K10.out.res.frozen 3
    have rz4 : w10.cell? ⟨w.heap.size, 4, none⟩ = some (.int .u64 0) := (K10.out.res.cell 4).trans rfl
    have rzf4 : w10.frozen? ⟨w.heap.size, 4, none⟩ = false := K10.out.res.frozen 4
    go_wp2_with fail
    refine bodyPost_ret (v := hval none) (by simp [results, Try.f45, go_sem, hval, rz0, rz1, rz2, rz3, rz4]) rfl ?_
    exact ⟨by rw [HQ.out], set5k K10.out.fr _ _ _ _ _⟩

end Go.Proofs.Ythfifpapkknodaa

/- The code's calls on a plain picture's head. -/
namespace Go.Proofs.Ythfifpapkknodaa
open Go.RowKit
set_option maxRecDepth 100000

attribute [local go_sem ↓] Go.wp_at_zero Go.wp_at_succ

set_option maxHeartbeats 1600000 in
theorem cBlank_any (c : Int) (w : World) (h : 0 ≤ c ∧ c < 256) : Calls Try.prog 73 #[.int .u8 c] w fun e w' => e = .returned (.bool (decide (blk c))) ∧ w = w' := by
  have hcs : c = 32 ∨ c = 9 ∨ c = 10 ∨ c = 13 ∨ (c ≠ 32 ∧ c ≠ 9 ∧ c ≠ 10 ∧ c ≠ 13) := by omega
  rcases hcs with rfl | rfl | rfl | rfl | ⟨h1, h2, h3, h4⟩
  rotate_right
  · have hd : decide (blk c) = false := by simp [blk, h1, h2, h3, h4]
    rw [hd]
    clear hd
    have b1 : (c == 32) = false := by simp [h1]
    have b2 : (c == 9) = false := by simp [h2]
    have b3 : (c == 10) = false := by simp [h3]
    have b4 : (c == 13) = false := by simp [h4]
    go_enter Try.func73, Try.ntmps73
    go_wp2_with fail
    go_ret
    exact ⟨rfl, rfl⟩
  all_goals
    rw [show decide (blk _) = true from by simp [blk]]
    go_enter Try.func73, Try.ntmps73
    go_wp2_with fail
    go_ret
    exact ⟨rfl, rfl⟩

set_option maxHeartbeats 800000 in
theorem cDigit_any (v : Int) (w : World) : Calls Try.prog 94 #[.int .u8 v] w fun e w' => e = .returned (.bool (decide (dgt v))) ∧ w = w' := by
  by_cases h1 : 48 ≤ v
  · by_cases h2 : v ≤ 57
    · rw [decide_eq_true (show dgt v from ⟨h1, h2⟩)]
      go_enter Try.func94, Try.ntmps94
      go_wp2_with fail
      go_ret
      exact ⟨rfl, rfl⟩
    · rw [decide_eq_false (fun h : dgt v => h2 h.2)]
      go_enter Try.func94, Try.ntmps94
      go_wp2_with fail
      go_ret
      exact ⟨rfl, rfl⟩
  · rw [decide_eq_false (fun h : dgt v => h1 h.1)]
    go_enter Try.func94, Try.ntmps94
    go_wp2_with fail
    go_ret
    exact ⟨rfl, rfl⟩

/-- What a parser turns. -/
def PFt (g R k : Nat) : Prop := k = g ∨ k = R
/-- A parser and its reader, the byte of place i in hand. -/
structure PA (w : World) (g R : Nat) (A : Option Addr) (c : Nat) (l : List Int) (i : Nat) : Prop where
  le : i ≤ l.length
  blk : Blk w g 105 #[.pointer (some ⟨R, 0, none⟩), .int .u8 (l.getD i 0)]
  rd : ∃ p err, NRd w R 75 [] A c l p err ∧ (i < l.length → p = i + 1 ∧ err = 0) ∧ (¬ i < l.length → err ≠ 0)
  far : ∀ b o, A = some ⟨b, o, none⟩ → 0 < l.length → b ≠ g
/-- How far it is to the end. -/
def mea (w : World) (R : Nat) (l : List Int) : Nat := match w.cell? ⟨R, 2, none⟩, w.cell? ⟨R, 1, none⟩ with
  | some (.int _ e), some (.int _ p) => if e = 0 then l.length + 1 - p.toNat else 0
  | _, _ => 0

section
variable {w w' : World} {g R : Nat} {A : Option Addr} {c : Nat} {l : List Int} {i : Nat}
theorem PA.mea_ (h : PA w g R A c l i) : mea w R l = l.length - i := by
  obtain ⟨p, err, hr, h1, h2⟩ := h.rd
  unfold mea
  rw [hr.c2, hr.c1]
  simp only []
  have := h.le
  by_cases hi : i < l.length
  · obtain ⟨rfl, rfl⟩ := h1 hi
    rw [if_pos rfl]
    omega
  · rw [if_neg (h2 hi)]
    omega
theorem PA.c0 (h : PA w g R A c l i) : w.cell? ⟨g, 0, none⟩ = some (.pointer (some ⟨R, 0, none⟩)) := (h.blk.cell 0).trans rfl
theorem PA.c1 (h : PA w g R A c l i) : w.cell? ⟨g, 1, none⟩ = some (.int .u8 (l.getD i 0)) := (h.blk.cell 1).trans rfl
theorem PA.ne_ (h : PA w g R A c l i) : g ≠ R := by
  obtain ⟨p, err, hr, _⟩ := h.rd
  exact h.blk.ne_ hr.blk (by decide)
theorem PA.b8 (h : PA w g R A c l i) : ∀ c ∈ l, 0 ≤ c ∧ c < 256 := by
  obtain ⟨p, err, hr, _⟩ := h.rd
  exact hr.byte
theorem PA.drewN (h : PA w g R A c l i) (n : Nat) : PA (w.drewN n) g R A c l i := by
  obtain ⟨p, err, hr, h1, h2⟩ := h.rd
  exact ⟨h.le, h.blk.drewN n, ⟨p, err, hr.drewN n, h1, h2⟩, h.far⟩
theorem PA.fresh (h : PA w g R A c l i) (hf : Fresh w w') : PA w' g R A c l i := by
  obtain ⟨p, err, hr, h1, h2⟩ := h.rd
  exact ⟨h.le, h.blk.kept hf id, ⟨p, err, hr.kept hf id (fun _ _ _ _ => id), h1, h2⟩, h.far⟩
end

set_option maxHeartbeats 1600000 in
/-- A byte on: the one of place i comes to hand. -/
theorem cStep_from (g R : Nat) (A : Option Addr) (c : Nat) (l : List Int) (i p : Nat) (err x : Int) (w : World) (hi : i ≤ l.length)
    (h0 : Blk w g 105 #[.pointer (some ⟨R, 0, none⟩), .int .u8 x]) (h1 : NRd w R 75 [] A c l p err) (hf : ∀ b o, A = some ⟨b, o, none⟩ → 0 < l.length → b ≠ g)
    (hp : (err = 0 → p = i) ∧ (err ≠ 0 → i = l.length)) :
    Calls Try.prog 71 #[.pointer (some ⟨g, 0, none⟩)] w fun e w' => e = .returned (.tuple #[]) ∧ PA w' g R A c l i ∧ Kept (PFt g R) w w' := by
  have HL := Lib.hid (nrLittle_any R _ [] A c l p err w 1 h1)
  rw [show wid 1 = 1 from rfl] at HL
  have hne := h0.ne_ h1.blk (by decide)
  have h8 := h1.byte
  have c0 : w.cell? ⟨g, 0, none⟩ = some (.pointer (some ⟨R, 0, none⟩)) := (h0.cell 0).trans rfl
  have HE : Hid ((leNum (tk l p err 1).1 : Int) = l.getD i 0 ∧ (i < l.length → (tk l p err 1).2.1 = i + 1 ∧ (tk l p err 1).2.2 = 0) ∧ (¬ i < l.length → (tk l p err 1).2.2 ≠ 0)) := Lib.hid (by
    by_cases he : err = 0
    · subst he
      obtain rfl := hp.1 rfl
      by_cases h2 : p + 1 ≤ l.length
      · rw [tk_in h2]
        have hs : slc l p 1 = [l.getD p 0] := by
          unfold slc
          rw [drop_cons (by omega)]
          rfl
        refine ⟨?_, fun _ => ⟨rfl, rfl⟩, fun h => absurd h2 h⟩
        simp only []
        rw [hs, leNum_cons]
        have := h8 _ (getD_mem (xs := l) (k := p) (by omega))
        generalize l.getD p 0 = y at *
        rw [show leNum [] = 0 from rfl]
        omega
      · have ht : tk l p 0 1 = ([], p, 3) := by unfold tk; rw [if_neg (by simp), if_neg (by omega)]
        rw [ht]
        refine ⟨by rw [getD_past (by omega)]; rfl, fun h => absurd h h2, fun _ => ?_⟩
        simp
    · have ht : tk l p err 1 = ([], p, err) := by unfold tk; rw [if_pos he]
      have := hp.2 he
      rw [ht]
      exact ⟨by rw [getD_past (by omega)]; rfl, fun h => by omega, fun _ => he⟩)
  have H0 := Lib.hid (And.intro h0 (And.intro hf (And.intro hne hi)))
  have hx : 0 ≤ l.getD i 0 ∧ l.getD i 0 < 256 := by
    rcases Nat.lt_or_ge i l.length with h2 | h2
    · exact h8 _ (getD_mem h2)
    · rw [getD_past h2]; omega
  obtain ⟨r, hr⟩ : ∃ r, r = tk l p err 1 := ⟨_, rfl⟩
  rw [← hr] at HL HE
  obtain ⟨v, hv⟩ : ∃ v, v = l.getD i 0 := ⟨_, rfl⟩
  have hw : IntKind.u8.wrap v = v := by rw [hv]; exact IntWalk.u8_in _ (by omega)
  rw [← hv] at HE
  have Hv := Lib.hid hv
  clear h0 h1 hf hne h8 hp hr hi hx hv
  go_enter Try.func71, Try.ntmps71
  go_wp2_with fail
  refine HL.out.mono ?_
  rw [HE.out.1]
  rintro e w1 ⟨rfl, h1, hk⟩
  have hb := H0.out.1.kept hk H0.out.2.2.1
  have f1 := hb.frozen 1
  have k1 : w1.cell? ⟨g, 1, none⟩ = some (.int .u8 x) := (hb.cell 1).trans rfl
  have H1 := Lib.hid (And.intro hb (And.intro h1 hk))
  clear hb h1 hk HL c0
  go_wp2_with fail
  go_end0
  refine ⟨rfl, ⟨H0.out.2.2.2, ?_, ⟨r.2.1, r.2.2, ?_, HE.out.2.1, HE.out.2.2⟩, H0.out.2.1⟩, ?_⟩
  · have := H1.out.1.set_ 1 (.int .u8 v)
    rw [← Hv.out]
    simpa using this
  · exact H1.out.2.1.kept (S := fun k => k = g) (Kept.setCell (Kept.refl (fun k => k = g) w1) (p := ⟨g, _, none⟩) (fun _ => rfl) _) (fun e => H0.out.2.2.1 e.symm) (fun b o e hb => H0.out.2.1 b o e hb)
  · exact (H1.out.2.2.mono fun _ _ e => .inr e).setCell (p := ⟨g, 1, none⟩) (fun _ => .inl rfl) _

/-- A byte on. -/
theorem cStep_any (g R : Nat) (A : Option Addr) (c : Nat) (l : List Int) (i : Nat) (w : World) (h : PA w g R A c l i) (hi : i < l.length) :
    Calls Try.prog 71 #[.pointer (some ⟨g, 0, none⟩)] w fun e w' => e = .returned (.tuple #[]) ∧ PA w' g R A c l (i + 1) ∧ Kept (PFt g R) w w' := by
  obtain ⟨p, err, hr, h1, _⟩ := h.rd
  obtain ⟨rfl, rfl⟩ := h1 hi
  exact cStep_from g R A c l (i + 1) (i + 1) 0 _ w hi h.blk hr h.far ⟨fun _ => rfl, fun e => absurd rfl e⟩

end Go.Proofs.Ythfifpapkknodaa

/- The code's white and numbers. -/
namespace Go.Proofs.Ythfifpapkknodaa
open Go.RowKit
set_option maxRecDepth 100000

attribute [local go_sem ↓] Go.wp_at_zero Go.wp_at_succ

/-- What a call of the parser leaves: the byte of place i in hand. -/
def PP (g R : Nat) (A : Option Addr) (c : Nat) (l : List Int) (i : Nat) (w w' : World) : Prop := PA w' g R A c l i ∧ Kept (PFt g R) w w'

section
variable (g R : Nat) (A : Option Addr) (c : Nat) (l : List Int) (i : Nat)
theorem eol_self {l : List Int} {j : Nat} (h : l.getD j 0 = 10 ∨ l.length ≤ j) : eol l j = j := by
  rw [eol]
  split
  · rename_i h1
    rcases h with h | h
    · rw [if_pos h]
    · omega
  · rfl

set_option maxHeartbeats 1600000 in
theorem cRemark_any (w : World) (h : PA w g R A c l i) :
    Calls Try.prog 100 #[.pointer (some ⟨g, 0, none⟩)] w fun e w' => e = .returned (.tuple #[]) ∧ PP g R A c l (rmk l i) w w' := by
  have c1 := h.c1
  by_cases h35 : l.getD i 0 = 35
  · rw [h35] at c1
    have HR : Hid (rmk l i = eol l i) := Lib.hid (if_pos h35)
    have H := Lib.hid h
    clear h h35
    go_enter Try.func100, Try.ntmps100
    go_wp2_with fail
    clear c1
    go_loopw [9] (fun _ wr => ∃ j, PA wr g R A c l j ∧ eol l j = eol l i ∧ Kept (PFt g R) w wr) (fun _ wr => mea wr R l)
    case atStart => exact ⟨i, H.out, rfl, Kept.refl _ _⟩
    case round =>
      obtain ⟨j, hp, he, hk⟩ := hrel
      have HM := Lib.hid hp.mea_
      have c0 := hp.c0
      have c1 := hp.c1
      obtain ⟨p, err, hr, h1, h2⟩ := hp.rd
      have HJ := Lib.hid (And.intro hp (And.intro he hk))
      clear hp he hk
      by_cases h10 : l.getD j 0 = 10
      · rw [h10] at c1
        have HE : Hid (j = rmk l i) := Lib.hid (by rw [HR.out, ← HJ.out.2.1, eol_self (.inl h10)])
        clear h10 hr h1 h2
        go_wp2_with fail
        go_end0
        rw [← HE.out]
        exact ⟨rfl, HJ.out.1, HJ.out.2.2⟩
      · by_cases hj : j < l.length
        · obtain ⟨rfl, rfl⟩ := h1 hj
          have HE : Hid (eol l (j + 1) = eol l i) := Lib.hid (by rw [← HJ.out.2.1]; exact (by rw [eol, if_pos hj, if_neg h10] : eol l j = eol l (j + 1)).symm)
          have Hj := Lib.hid hj
          generalize l.getD j 0 = x at *
          have b10 : (x != 10) = true := by simp [h10]
          have Hr := Lib.hid hr
          clear h10 hr h1 h2 hj
          go_wp2_with fail
          refine (nrErr_any R _ [] A c l (j + 1) 0 _ Hr.out).mono ?_
          rintro e w1 ⟨rfl, rfl⟩
          go_wp2_with fail
          refine (cStep_any g R A c l j _ HJ.out.1 Hj.out).mono ?_
          rintro e w1 ⟨rfl, h1, hk⟩
          have H1 := Lib.hid (And.intro h1 (HJ.out.2.2.trans hk fun _ _ e => e))
          clear h1 hk
          go_wp2_with fail
          go_roundw
          case rel => exact ⟨j + 1, H1.out.1, HE.out, H1.out.2⟩
          case measure => rw [HM.out, H1.out.1.mea_]; have := Hj.out; omega
        · have hne := h2 hj
          have bne : (err == 0) = false := by simp [hne]
          have HE : Hid (j = rmk l i) := Lib.hid (by rw [HR.out, ← HJ.out.2.1, eol_self (.inr (by omega))])
          generalize l.getD j 0 = x at *
          have b10 : (x != 10) = true := by simp [h10]
          have Hr := Lib.hid hr
          clear h10 hr h1 h2 hne hj
          go_wp2_with fail
          refine (nrErr_any R _ [] A c l p err _ Hr.out).mono ?_
          rintro e w1 ⟨rfl, rfl⟩
          go_wp2_with fail
          go_end0
          rw [← HE.out]
          exact ⟨rfl, HJ.out.1, HJ.out.2.2⟩
  · have HR : Hid (rmk l i = i) := Lib.hid (if_neg h35)
    have H := Lib.hid h
    generalize l.getD i 0 = x at *
    have b35 : (x != 35) = true := by simp [h35]
    clear h h35
    go_enter Try.func100, Try.ntmps100
    go_wp2_with fail
    refine bodyPost_ret (results_none rfl _ _ _) rfl ?_
    rw [HR.out]
    exact ⟨rfl, H.out, Kept.refl _ _⟩

set_option maxHeartbeats 1600000 in
theorem cWhite_any (w : World) (h : PA w g R A c l i) :
    Calls Try.prog 93 #[.pointer (some ⟨g, 0, none⟩)] w fun e w' => e = .returned (.bool (cwh l false i).1) ∧ PP g R A c l (cwh l false i).2 w w' := by
  have H := Lib.hid h
  clear h
  go_enter Try.func93, Try.ntmps93
  go_wp2_with fail
  go_loopw [3] (fun v wr => ∃ b j, v = .bool b ∧ PA wr g R A c l j ∧ cwh l b j = cwh l false i ∧ Kept (PFt g R) w wr) (fun _ wr => mea wr R l)
  case atStart => exact ⟨false, i, rfl, H.out, rfl, Kept.refl _ _⟩
  case round =>
    obtain ⟨b, j, rfl, hp, he, hk⟩ := hrel
    have HM := Lib.hid hp.mea_
    have HJ := Lib.hid (And.intro hp (And.intro he hk))
    clear hp he hk
    go_wp2_with fail
    refine (cRemark_any g R A c l j _ HJ.out.1).mono ?_
    rintro e w1 ⟨rfl, h1, hk1⟩
    have hge := rmk_ge l j
    have hun : cwh l b j = if blk (l.getD (rmk l j) 0) then cwh l true (rmk l j + 1) else (b, rmk l j) := by rw [cwh]
    generalize rmk l j = q at *
    have c1 := h1.c1
    have H1 := Lib.hid (And.intro h1 (And.intro (HJ.out.2.2.trans hk1 fun _ _ e => e) hge))
    have hx : 0 ≤ l.getD q 0 ∧ l.getD q 0 < 256 := by
      rcases Nat.lt_or_ge q l.length with h2 | h2
      · exact h1.b8 _ (getD_mem h2)
      · rw [getD_past h2]; omega
    have HB := Lib.hid (cBlank_any (l.getD q 0) w1 hx)
    have HLT : Hid (blk (l.getD q 0) → q < l.length) := Lib.hid blk_lt
    generalize l.getD q 0 = x at *
    by_cases hb : blk x
    · rw [decide_eq_true hb] at HB
      rw [if_pos hb] at hun
      have HU := Lib.hid (hun.symm.trans HJ.out.2.1)
      have Hq := Lib.hid (HLT.out hb)
      clear h1 hk1 hx hun hb hge HLT
      go_wp2_with fail
      refine HB.out.mono ?_
      rintro e w2 ⟨rfl, rfl⟩
      go_wp2_with fail
      refine (cStep_any g R A c l q _ H1.out.1 Hq.out).mono ?_
      rintro e w2 ⟨rfl, h2, hk2⟩
      have H2 := Lib.hid (And.intro h2 (H1.out.2.1.trans hk2 fun _ _ e => e))
      clear h2 hk2
      go_wp2_with fail
      go_roundw
      case rel => exact ⟨true, q + 1, rfl, H2.out.1, HU.out, H2.out.2⟩
      case measure => rw [HM.out, H2.out.1.mea_]; have := Hq.out; have := H1.out.2.2; omega
    · rw [decide_eq_false hb] at HB
      rw [if_neg hb] at hun
      have HU := Lib.hid (hun.symm.trans HJ.out.2.1)
      clear h1 hk1 hx hun hb hge HLT
      go_wp2_with fail
      refine HB.out.mono ?_
      rintro e w2 ⟨rfl, rfl⟩
      go_wp2_with fail
      go_ret
      rw [← HU.out]
      exact ⟨rfl, H1.out.1, H1.out.2.1⟩

set_option maxHeartbeats 1600000 in
theorem cNumber_any (w : World) (h : PA w g R A c l i) :
    Calls Try.prog 72 #[.pointer (some ⟨g, 0, none⟩)] w fun e w' => e = .returned (.int .u64 ((cnm l i).1 : Nat)) ∧ PP g R A c l (cnm l i).2 w w' := by
  obtain ⟨r, hr⟩ : ∃ r, r = cwh l false i := ⟨_, rfl⟩
  have HW := Lib.hid (cWhite_any g R A c l i w h)
  have hcn : cnm l i = if r.1 then dgs l 5 r.2 0 else (0, r.2) := by rw [hr]; rfl
  rw [← hr] at HW
  rw [hcn]
  clear hcn hr h
  obtain ⟨b, j⟩ := r
  cases b with
  | false =>
    simp only [Bool.false_eq_true, if_false] at HW ⊢
    go_enter Try.func72, Try.ntmps72
    go_wp2_with fail
    refine HW.out.mono ?_
    rintro e w1 ⟨rfl, h1⟩
    have H1 := Lib.hid h1
    clear h1
    go_wp2_with fail
    go_ret
    exact ⟨rfl, H1.out⟩
  | true =>
    simp only [if_true] at HW ⊢
    obtain ⟨z, hz⟩ : ∃ z, z = dgs l 5 j 0 := ⟨_, rfl⟩
    rw [← hz]
    have HZ := Lib.hid hz
    clear hz
    go_enter Try.func72, Try.ntmps72
    go_wp2_with fail
    refine HW.out.mono ?_
    rintro e w1 ⟨rfl, h1, hk1⟩
    have H1 := Lib.hid (And.intro h1 hk1)
    clear h1 hk1 HW
    go_wp2_with fail
    go_loopw [3, 7] (fun v kv wr => ∃ k v' q : Nat, k ≤ 5 ∧ v = .int .u64 (v' : Int) ∧ kv = .int .i64 (k : Int) ∧ v' < 10 ^ k ∧ z = dgs l (5 - k) q v' ∧ PA wr g R A c l q ∧ Kept (PFt g R) w wr) (fun _ kv _ => (5 - intOf kv).toNat)
    case atStart => exact ⟨0, 0, j, by omega, rfl, rfl, by decide, HZ.out, H1.out.1, H1.out.2⟩
    case round =>
      obtain ⟨k, v', q, hk5, rfl, rfl, hv, hz, hp, hk⟩ := hrel
      by_cases hlt : k < 5
      · have c1 := hp.c1
        have hx : 0 ≤ l.getD q 0 ∧ l.getD q 0 < 256 := by
          rcases Nat.lt_or_ge q l.length with h2 | h2
          · exact hp.b8 _ (getD_mem h2)
          · rw [getD_past h2]; omega
        have HD := Lib.hid (cDigit_any (l.getD q 0))
        have HLT : Hid (dgt (l.getD q 0) → q < l.length) := Lib.hid dgt_lt
        have hun : z = if dgt (l.getD q 0) then dgs l (5 - (k + 1)) (q + 1) (10 * v' + (l.getD q 0 - 48).toNat) else (v', q) := by
          rw [hz, show 5 - k = 5 - (k + 1) + 1 by omega, dgs]
        have HP := Lib.hid (And.intro hp hk)
        have k5 : (k : Int) < 5 := by omega
        generalize l.getD q 0 = x at *
        clear hz hp hk
        by_cases hd : dgt x
        · rw [if_pos hd] at hun
          rw [decide_eq_true hd] at HD
          obtain ⟨d, hd0⟩ : ∃ d : Nat, (x - 48).toNat = d := ⟨_, rfl⟩
          have x1 : x - 48 = (d : Int) := by have := hd.1; omega
          have x2 : (d : Int) ≤ 9 := by have := hd.2; omega
          rw [hd0] at hun
          have r1 : v' < 100000 := Nat.lt_of_lt_of_le hv (Nat.le_trans (Nat.pow_le_pow_right (by decide) (show k ≤ 5 by omega)) (by decide))
          obtain ⟨m, hm⟩ : ∃ m, m = 10 * v' := ⟨_, rfl⟩
          obtain ⟨u, hu⟩ : ∃ u, u = m + d := ⟨_, rfl⟩
          have e1 : 10 * (v' : Int) = (m : Int) := by omega
          have e2 : (m : Int) + (d : Int) = (u : Int) := by omega
          have r2 : (m : Int) < 1000000 := by omega
          have r3 : (u : Int) < 1000010 := by omega
          have HU : Hid (z = dgs l (5 - (k + 1)) (q + 1) u ∧ u < 10 ^ (k + 1)) := Lib.hid ⟨by rw [hun, hu, hm], by rw [Nat.pow_succ]; omega⟩
          have Hq := Lib.hid (HLT.out hd)
          have c1' := Lib.hid c1
          clear hun hd hd0 hm hu hv hx HLT
          go_wp2_with fail
          refine (HD.out _).mono ?_
          rintro e w2 ⟨rfl, rfl⟩
          go_wp2_with fail
          refine (cStep_any g R A c l q _ HP.out.1 Hq.out).mono ?_
          rintro e w2 ⟨rfl, h2, hk2⟩
          have H2 := Lib.hid (And.intro h2 (HP.out.2.trans hk2 fun _ _ e => e))
          clear h2 hk2 c1
          go_wp2_with fail
          go_roundw
          case rel => exact ⟨k + 1, u, q + 1, by omega, rfl, by go_num, HU.out.2, HU.out.1, H2.out.1, H2.out.2⟩
          case measure => simp [intOf]; omega
        · rw [if_neg hd] at hun
          rw [decide_eq_false hd] at HD
          have HU := Lib.hid hun
          clear hun hd hv hx HLT
          go_wp2_with fail
          refine (HD.out _).mono ?_
          rintro e w2 ⟨rfl, rfl⟩
          go_wp2_with fail
          go_ret
          rw [HU.out]
          exact ⟨rfl, HP.out.1, HP.out.2⟩
      · obtain rfl : k = 5 := by omega
        have HU : Hid (z = (v', q)) := Lib.hid hz
        have HP := Lib.hid (And.intro hp hk)
        clear hz hp hk hv
        go_wp2_with fail
        go_ret
        rw [HU.out]
        exact ⟨rfl, HP.out.1, HP.out.2⟩
end

end Go.Proofs.Ythfifpapkknodaa

/- The code's Bmp. -/
namespace Go.Proofs.Ythfifpapkknodaa
open Go.RowKit
set_option maxRecDepth 100000

attribute [local go_sem ↓] Go.wp_at_zero Go.wp_at_succ

set_option maxHeartbeats 3200000 in
theorem cBmpHead_cut (g R : Nat) (A : Option Addr) (c : Nat) (bs : List Int) (w : World) (h54 : bs.length < 54) (h0 : Blk w g 101 #[.pointer (some ⟨R, 0, none⟩)]) (h1 : NRd w R 75 [] A c bs 0 0) :
    Calls Try.prog 45 #[.pointer (some ⟨g, 0, none⟩)] w fun e w' => e = .returned (hval none) ∧ Kept (fun k => k = R) w w' := by
  have H0 : Hid (BS w g R A c bs 0 0 (w.alloc (.cells #[.int .u64 0, .int .u64 0, .int .u64 0, .int .u64 0, .int .u64 0] 77))) := Lib.hid ⟨Blk.new _ _ _, h0.alloc _, h1.kept ((Kept.refl (fun _ => False) w).alloc _) id (fun _ _ _ _ => id), (Kept.refl _ _).alloc _, h1.blk.lt⟩
  have C0 : Hid (Cutt 0 0 0) := Lib.hid (.inr rfl)
  have HL := Lib.hid h54
  clear h0 h1 h54
  generalize hW0 : w.alloc (.cells #[.int .u64 0, .int .u64 0, .int .u64 0, .int .u64 0, .int .u64 0] 77) = W0 at *
  have c0 := H0.out.c0
  go_enter Try.func45, Try.ntmps45
  go_wp2_with fail
  clear hW0
  refine (rRaw_cut R _ [] A c bs _ _ _ 0 2 2 rfl (by omega) C0.out H0.out.rd).mono ?_
  rintro e w1 ⟨A0, m0, d0, ys0, p0, r0, rfl, hrow, hr, hc, hk⟩
  have s0 := row_string hrow d0
  have H1 := Lib.hid (H0.out.step hr hk)
  have C1 := Lib.hid hc
  have c0 := H1.out.c0
  clear H0 hr hk hc C0 hrow
  go_wp2_with fail
  refine (rRaw_cut R _ [] A c bs _ _ _ 2 8 8 rfl (by omega) C1.out H1.out.rd).mono ?_
  rintro e w2 ⟨A1, m1, d1, ys1, p1, r1, rfl, hrow, hr, hc, hk⟩
  have H2 := Lib.hid (H1.out.step hr hk)
  have C2 := Lib.hid hc
  have c0 := H2.out.c0
  clear H1 hr hk hc C1 hrow
  go_wp2_with fail
  refine (rLit_cut R _ [] A c bs _ _ _ 10 4 4 rfl (by omega) C2.out H2.out.rd).mono ?_
  rintro e w3 ⟨x2, p2, r2, rfl, hx, hr, hc, hk⟩
  have B2 := Lib.hid hx
  clear hx
  have H3 := Lib.hid (H2.out.step hr hk)
  have C3 := Lib.hid hc
  have c0 := H3.out.c0
  clear H2 hr hk hc C2
  go_wp2_with fail
  refine (rLit_cut R _ [] A c bs _ _ _ 14 4 4 rfl (by omega) C3.out H3.out.rd).mono ?_
  rintro e w4 ⟨x3, p3, r3, rfl, hx, hr, hc, hk⟩
  have B3 := Lib.hid hx
  clear hx
  have H4 := Lib.hid (H3.out.step hr hk)
  have C4 := Lib.hid hc
  have c0 := H4.out.c0
  clear H3 hr hk hc C3
  go_wp2_with fail
  refine (rLit_cut R _ [] A c bs _ _ _ 18 4 4 rfl (by omega) C4.out H4.out.rd).mono ?_
  rintro e w5 ⟨x4, p4, r4, rfl, hx, hr, hc, hk⟩
  have B4 := Lib.hid hx
  clear hx
  have H5 := Lib.hid (H4.out.step hr hk)
  have C5 := Lib.hid hc
  have c0 := H5.out.c0
  clear H4 hr hk hc C4
  go_wp2_with fail
  refine (rLit_cut R _ [] A c bs _ _ _ 22 4 4 rfl (by omega) C5.out H5.out.rd).mono ?_
  rintro e w6 ⟨x5, p5, r5, rfl, hx, hr, hc, hk⟩
  have B5 := Lib.hid hx
  clear hx
  have H6 := Lib.hid (H5.out.step hr hk)
  have C6 := Lib.hid hc
  have c0 := H6.out.c0
  clear H5 hr hk hc C5
  go_wp2_with fail
  refine (cAmount_any x5 _ B5.out).mono ?_
  rintro e wz ⟨rfl, rfl⟩
  go_wp2_with fail
  refine (rLit_cut R _ [] A c bs _ _ _ 26 2 2 rfl (by omega) C6.out H6.out.rd).mono ?_
  rintro e w7 ⟨x6, p6, r6, rfl, hx, hr, hc, hk⟩
  have B6 := Lib.hid hx
  clear hx
  have H7 := Lib.hid (H6.out.step hr hk)
  have C7 := Lib.hid hc
  have c0 := H7.out.c0
  clear H6 hr hk hc C6
  go_wp2_with fail
  refine (rLit_cut R _ [] A c bs _ _ _ 28 2 2 rfl (by omega) C7.out H7.out.rd).mono ?_
  rintro e w8 ⟨x7, p7, r7, rfl, hx, hr, hc, hk⟩
  have B7 := Lib.hid hx
  clear hx
  have H8 := Lib.hid (H7.out.step hr hk)
  have C8 := Lib.hid hc
  have c0 := H8.out.c0
  clear H7 hr hk hc C7
  go_wp2_with fail
  refine (cPlanesOf_any x7 _).mono ?_
  rintro e wz ⟨rfl, rfl⟩
  go_wp2_with fail
  refine (rLit_cut R _ [] A c bs _ _ _ 30 4 4 rfl (by omega) C8.out H8.out.rd).mono ?_
  rintro e w9 ⟨x8, p8, r8, rfl, hx, hr, hc, hk⟩
  have B8 := Lib.hid hx
  clear hx
  have H9 := Lib.hid (H8.out.step hr hk)
  have C9 := Lib.hid hc
  have c0 := H9.out.c0
  clear H8 hr hk hc C8
  go_wp2_with fail
  refine (rRaw_cut R _ [] A c bs _ _ _ 34 20 20 rfl (by omega) C9.out H9.out.rd).mono ?_
  rintro e w10 ⟨A9, m9, d9, ys9, p9, r9, rfl, hrow, hr, hc, hk⟩
  have H10 := Lib.hid (H9.out.step hr hk)
  have C10 := Lib.hid hc
  have c0 := H10.out.c0
  clear H9 hr hk hc C9 hrow
  go_wp2_with fail
  refine (nrErr_any R _ [] A c bs _ _ _ H10.out.rd).mono ?_
  rintro e wz ⟨rfl, rfl⟩
  have hne : r9 ≠ 0 := by
    rcases C10.out with h | h
    · exact h
    · have := H10.out.rd.le
      have := HL.out
      omega
  have bne : (r9 != 0) = true := by simpa using hne
  have rz0 : w10.cell? ⟨w.heap.size, 0, none⟩ = some (.int .u64 0) := (H10.out.res.cell 0).trans rfl
  have rzf0 : w10.frozen? ⟨w.heap.size, 0, none⟩ = false := H10.out.res.frozen 0
  have rz1 : w10.cell? ⟨w.heap.size, 1, none⟩ = some (.int .u64 0) := (H10.out.res.cell 1).trans rfl
  have rzf1 : w10.frozen? ⟨w.heap.size, 1, none⟩ = false := H10.out.res.frozen 1
  have rz2 : w10.cell? ⟨w.heap.size, 2, none⟩ = some (.int .u64 0) := (H10.out.res.cell 2).trans rfl
  have rzf2 : w10.frozen? ⟨w.heap.size, 2, none⟩ = false := H10.out.res.frozen 2
  have rz3 : w10.cell? ⟨w.heap.size, 3, none⟩ = some (.int .u64 0) := (H10.out.res.cell 3).trans rfl
  have rzf3 : w10.frozen? ⟨w.heap.size, 3, none⟩ = false := H10.out.res.frozen 3
  have rz4 : w10.cell? ⟨w.heap.size, 4, none⟩ = some (.int .u64 0) := (H10.out.res.cell 4).trans rfl
  have rzf4 : w10.frozen? ⟨w.heap.size, 4, none⟩ = false := H10.out.res.frozen 4
  clear hne C10
  go_wp2_with fail
  refine bodyPost_ret (v := hval none) (by simp [results, Try.f45, go_sem, hval, rz0, rz1, rz2, rz3, rz4]) rfl ?_
  exact ⟨rfl, set5k H10.out.fr _ _ _ _ _⟩

theorem cBmpHead_any (g R : Nat) (A : Option Addr) (c : Nat) (bs : List Int) (w : World) (h0 : Blk w g 101 #[.pointer (some ⟨R, 0, none⟩)]) (h1 : NRd w R 75 [] A c bs 0 0) :
    Calls Try.prog 45 #[.pointer (some ⟨g, 0, none⟩)] w fun e w' => e = .returned (hval (bmpH bs)) ∧ Kept (fun k => k = R) w w' := by
  by_cases h : 54 ≤ bs.length
  · exact cBmpHead_ok g R A c bs w h h0 h1
  · rw [show bmpH bs = none from if_neg (fun e => h e.1.1)]
    exact cBmpHead_cut g R A c bs w (by omega) h0 h1

set_option maxHeartbeats 1600000 in
theorem cNewBmp_any (A : Option Addr) (n c : Nat) (l : List Int) (w : World) (hr : Row w .u8 A n l) (h8 : B8 l) (hn : n ≤ 1000000000) (hnc : n ≤ c) :
    Calls Try.prog 44 #[.slice A n c] w fun e w' => ∃ g R A' c', e = .returned (.pointer (some ⟨g, 0, none⟩)) ∧ Blk w' g 101 #[.pointer (some ⟨R, 0, none⟩)] ∧ NRd w' R 75 [] A' c' (l.take 54) 0 0 ∧ w.heap.size ≤ R ∧ Fresh w w' := by
  obtain rfl := hr.len
  obtain ⟨m, hm⟩ : ∃ m : Nat, min (l.length : Int) 54 = m := ⟨(min (l.length : Int) 54).toNat, by omega⟩
  have hsl : ∀ W, (Instr.slice 22 (.slice A l.length c) none (some (.int .i64 (min (l.length : Int) 54))) none).run Try.prog W = .ok (.slice A m c) W := fun W =>
    run_slice_to _ _ Try.underlying22 byte_size A l.length c m _ hm (by omega) W
  have hrow : Row w .u8 A m (l.take 54) := by
    refine ⟨by rw [List.length_take]; omega, fun j hj => ?_⟩
    obtain ⟨b, o, e, hb, hc⟩ := hr.at_ j (by omega)
    exact ⟨b, o, e, hb, by rw [hc, getD_cut (by omega)]⟩
  have HN := Lib.hid (nrNew_any A m c (l.take 54) w hrow (fun x hx => h8 x (List.mem_of_mem_take hx)) (by omega))
  clear hrow hr hm
  go_enter Try.func44, Try.ntmps44
  go_wp2_with fail
  refine HN.out.mono ?_
  rintro e w1 ⟨R, A', c', rfl, h1, h2, _, h4⟩
  have H1 := Lib.hid (And.intro h1 (And.intro h2 h4))
  clear h1 h2 h4 HN
  go_wp2_with fail
  go_ret
  exact ⟨w1.heap.size, R, A', c', rfl, Blk.new _ _ _, H1.out.1.kept ((Kept.refl (fun _ => False) _).alloc _) id (fun _ _ _ _ => id), H1.out.2.1, H1.out.2.2.alloc _⟩

set_option maxHeartbeats 1600000 in
/-- Bmp: P16.1. -/
theorem cBmp_any (A : Option Addr) (n c : Nat) (l : List Int) (w : World) (hr : Row w .u8 A n l) (h8 : B8 l) (hn : n ≤ 1000000000) (hnc : n ≤ c) :
    Calls Try.prog 26 #[.slice A n c] w fun e w' => e = .returned (.tuple #[pval (bmpP l), .bool (bmpP l).isSome]) ∧ Fresh w w' := by
  obtain rfl := hr.len
  obtain ⟨W0, hW0⟩ : ∃ W0, W0 = w.alloc (.cells #[.int .i64 0, .int .i64 0, .int .i64 0, .int .i64 0, .int .i64 0] 28) := ⟨_, rfl⟩
  have hf0 : Fresh w W0 := by rw [hW0]; exact (Kept.refl _ _).alloc _
  have hb0 : Blk W0 w.heap.size 28 #[.int .i64 0, .int .i64 0, .int .i64 0, .int .i64 0, .int .i64 0] := by rw [hW0]; exact Blk.new _ _ _
  have HN := Lib.hid (cNewBmp_any A l.length c l W0 (hr.kept hf0 (fun _ _ _ _ => id)) h8 hn hnc)
  have H0 := Lib.hid (And.intro hf0 hb0)
  have HC := Lib.hid (And.intro h8 hn)
  obtain ⟨n, hnn⟩ : ∃ n, n = l.length := ⟨_, rfl⟩
  have Hn := Lib.hid hnn
  rw [← hnn] at HN ⊢
  clear hr h8 hn hf0 hb0 hnn hnc
  go_enter Try.func26, Try.ntmps26
  go_wp2_with fail
  rw [← hW0]
  clear hW0
  refine HN.out.mono ?_
  rintro e w1 ⟨g, R, A', c', rfl, h1, h2, h3, h4⟩
  have H1 := Lib.hid (And.intro h1 (And.intro h2 (And.intro h3 h4)))
  clear h1 h2 h3 h4 HN
  go_wp2_with fail
  refine (cBmpHead_any g R A' c' (l.take 54) w1 H1.out.1 H1.out.2.1).mono ?_
  rw [bmpH_cut]
  rintro e w2 ⟨rfl, hk⟩
  have hf2 : Fresh W0 w2 := H1.out.2.2.2.trans hk fun i hi e => by have := H1.out.2.2.1; omega
  have H2 := Lib.hid hf2
  clear hk hf2
  go_wp2_with fail
  refine (cWithin_any (bmpH l) n w2 (fun r hr => bmpH_ok HC.out.1 hr) (by rw [Hn.out]; exact HC.out.2)).mono ?_
  rw [show fitO n (bmpH l) = bmpP l from by rw [Hn.out, bmpP_fit]]
  rintro e w3 ⟨rfl, hf3⟩
  have hf := H2.out.trans hf3 fun _ _ e => e
  have hr := H0.out.2.kept hf id
  obtain ⟨o, ho⟩ : ∃ o, o = bmpP l := ⟨_, rfl⟩
  rw [← ho]
  have Ho := Lib.hid ho
  have HF := Lib.hid (H0.out.1.trans hf fun _ _ e => e)
  have rz0 : w3.cell? ⟨w.heap.size, 0, none⟩ = some (.int .i64 0) := (hr.cell 0).trans rfl
  have rzf0 : w3.frozen? ⟨w.heap.size, 0, none⟩ = false := hr.frozen 0
  have rz1 : w3.cell? ⟨w.heap.size, 1, none⟩ = some (.int .i64 0) := (hr.cell 1).trans rfl
  have rzf1 : w3.frozen? ⟨w.heap.size, 1, none⟩ = false := hr.frozen 1
  have rz2 : w3.cell? ⟨w.heap.size, 2, none⟩ = some (.int .i64 0) := (hr.cell 2).trans rfl
  have rzf2 : w3.frozen? ⟨w.heap.size, 2, none⟩ = false := hr.frozen 2
  have rz3 : w3.cell? ⟨w.heap.size, 3, none⟩ = some (.int .i64 0) := (hr.cell 3).trans rfl
  have rzf3 : w3.frozen? ⟨w.heap.size, 3, none⟩ = false := hr.frozen 3
  have rz4 : w3.cell? ⟨w.heap.size, 4, none⟩ = some (.int .i64 0) := (hr.cell 4).trans rfl
  have rzf4 : w3.frozen? ⟨w.heap.size, 4, none⟩ = false := hr.frozen 4
  clear hf3 hf hr ho
  cases o with
  | none =>
    simp only [pval, Option.isSome_none]
    go_wp2_with fail
    refine bodyPost_ret (v := .tuple #[pval none, .bool false]) (by simp [results, Try.f26, go_sem, pval, rz0, rz1, rz2, rz3, rz4]) rfl ?_
    exact ⟨by rw [← Ho.out]; rfl, set5 HF.out _ _ _ _ _⟩
  | some r =>
    simp only [pval, Option.isSome_some]
    go_wp2_with fail
    refine bodyPost_ret (v := .tuple #[pval (some r), .bool true]) (by simp [results, Try.f26, go_sem, pval, rz0, rz1, rz2, rz3, rz4]) rfl ?_
    exact ⟨by rw [← Ho.out]; rfl, set5 HF.out _ _ _ _ _⟩

end Go.Proofs.Ythfifpapkknodaa

/- The code's Pnm and Parse, the document's Parse. -/
namespace Go.Proofs.Ythfifpapkknodaa
open Go.RowKit
set_option maxRecDepth 100000

attribute [local go_sem ↓] Go.wp_at_zero Go.wp_at_succ

/-- How many bytes a pixel has; 0, if there is no head. -/
def plnQ (l : List Int) : Nat := if hdP l then plnP l else 0
def beg (l : List Int) : Nat := if 2 ≤ l.length then 2 else l.length
theorem beg_le (l : List Int) : beg l ≤ l.length := by unfold beg; split <;> omega

section
variable (g R : Nat) (A : Option Addr) (c : Nat) (l : List Int)

set_option maxHeartbeats 1600000 in
theorem cPlanes_any (w : World) (h0 : Blk w g 105 #[.pointer (some ⟨R, 0, none⟩), .int .u8 0]) (h1 : NRd w R 75 [] A c l 0 0) :
    Calls Try.prog 70 #[.pointer (some ⟨g, 0, none⟩)] w fun e w' => e = .returned (.int .u64 (plnQ l : Nat)) ∧ Blk w' g 105 #[.pointer (some ⟨R, 0, none⟩), .int .u8 0] ∧
      (∃ p err, NRd w' R 75 [] A c l p err ∧ (err = 0 → p = beg l) ∧ (err ≠ 0 → beg l = l.length)) ∧ Kept (PFt g R) w w' := by
  have hne := h0.ne_ h1.blk (by decide)
  have HL := Lib.hid (nrRaw_any R _ [] A c l 0 0 w 2 (by omega) h1)
  rw [show (2 : Int).toNat = 2 from rfl] at HL
  have h8 := tk_byte l 0 0 2 h1.byte
  have hp : ((tk l 0 0 2).2.2 = 0 → (tk l 0 0 2).2.1 = beg l) ∧ ((tk l 0 0 2).2.2 ≠ 0 → beg l = l.length) := by
    unfold beg
    by_cases h2 : 2 ≤ l.length
    · rw [tk_in (show 0 + 2 ≤ l.length from h2), if_pos h2]
      exact ⟨fun _ => rfl, fun h => absurd rfl h⟩
    · have ht : tk l 0 0 2 = ([], 0, 3) := by unfold tk; rw [if_neg (by simp), if_neg (by omega)]
      rw [ht, if_neg h2]
      exact ⟨fun h => absurd h (by simp), fun _ => rfl⟩
  have hq : plnQ l = if (tk l 0 0 2).1 = [((80 : Nat) : Int), ((53 : Nat) : Int)] then 1 else if (tk l 0 0 2).1 = [((80 : Nat) : Int), ((54 : Nat) : Int)] then 3 else 0 := by
    unfold plnQ
    by_cases h2 : 2 ≤ l.length
    · rw [tk_in (show 0 + 2 ≤ l.length from h2)]
      simp only [slc_two h2]
      rw [show (((80 : Nat) : Int)) = 80 from rfl, show (((53 : Nat) : Int)) = 53 from rfl, show (((54 : Nat) : Int)) = 54 from rfl]
      by_cases a1 : l.getD 0 0 = 80
      · by_cases a2 : l.getD 1 0 = 53
        · rw [if_pos (show hdP l from ⟨h2, a1, .inl a2⟩), if_pos ⟨a1, a2⟩]
          unfold plnP
          rw [if_neg (by omega)]
        · by_cases a3 : l.getD 1 0 = 54
          · rw [if_pos (show hdP l from ⟨h2, a1, .inr a3⟩), if_neg (fun h => a2 h.2), if_pos ⟨a1, a3⟩]
            unfold plnP
            rw [if_pos a3]
          · rw [if_neg (fun h : hdP l => h.2.2.elim a2 a3), if_neg (fun h => a2 h.2), if_neg (fun h => a3 h.2)]
      · rw [if_neg (fun h : hdP l => a1 h.2.1), if_neg (fun h => a1 h.1), if_neg (fun h => a1 h.1)]
    · have ht : tk l 0 0 2 = ([], 0, 3) := by unfold tk; rw [if_neg (by simp), if_neg (by omega)]
      rw [ht, if_neg (fun h : hdP l => h2 h.1)]
      rfl
  have H0 := Lib.hid (And.intro h0 (And.intro hne hp))
  have c0 : w.cell? ⟨g, 0, none⟩ = some (.pointer (some ⟨R, 0, none⟩)) := (h0.cell 0).trans rfl
  obtain ⟨r, hr⟩ : ∃ r, r = tk l 0 0 2 := ⟨_, rfl⟩
  rw [← hr] at HL H0 hq h8
  have e5 := is_two 80 53 (by omega) (by omega) [80, 53] (by rw [Lib.strOfNums_toList]; decide) h8
  have e6 := is_two 80 54 (by omega) (by omega) [80, 54] (by rw [Lib.strOfNums_toList]; decide) h8
  rw [hq]
  clear h0 h1 hne hp hq hr h8
  have fin : ∀ (v : Nat) (w1 : World), NRd w1 R 75 [] A c l r.2.1 r.2.2 → Mine R w w1 → Blk w1 g 105 #[.pointer (some ⟨R, 0, none⟩), .int .u8 0] ∧ (∃ p err, NRd w1 R 75 [] A c l p err ∧ (err = 0 → p = beg l) ∧ (err ≠ 0 → beg l = l.length)) ∧ Kept (PFt g R) w w1 := fun v w1 h1 hk =>
    ⟨H0.out.1.kept hk H0.out.2.1, ⟨_, _, h1, H0.out.2.2⟩, hk.mono fun _ _ e => .inr e⟩
  have FIN := Lib.hid fin
  clear fin
  by_cases a5 : r.1 = [((80 : Nat) : Int), ((53 : Nat) : Int)]
  · rw [decide_eq_true a5] at e5
    rw [if_pos a5]
    clear a5 e6
    go_enter Try.func70, Try.ntmps70
    go_wp2_with fail
    refine HL.out.mono ?_
    rintro e w1 ⟨u, rfl, ho, _, h1, hk⟩
    obtain ⟨A', d, rfl, hrow, _⟩ := ho.row
    have s1 := row_string hrow d
    have H1 := Lib.hid (FIN.out 0 w1 h1 hk)
    clear ho h1 hk hrow HL c0
    go_wp2_with fail
    go_ret
    exact ⟨rfl, H1.out⟩
  · rw [decide_eq_false a5] at e5
    rw [if_neg a5]
    clear a5
    by_cases a6 : r.1 = [((80 : Nat) : Int), ((54 : Nat) : Int)]
    · rw [decide_eq_true a6] at e6
      rw [if_pos a6]
      clear a6
      go_enter Try.func70, Try.ntmps70
      go_wp2_with fail
      refine HL.out.mono ?_
      rintro e w1 ⟨u, rfl, ho, _, h1, hk⟩
      obtain ⟨A', d, rfl, hrow, _⟩ := ho.row
      have s1 := row_string hrow d
      have H1 := Lib.hid (FIN.out 0 w1 h1 hk)
      clear ho h1 hk hrow HL c0
      go_wp2_with fail
      go_ret
      exact ⟨rfl, H1.out⟩
    · rw [decide_eq_false a6] at e6
      rw [if_neg a6]
      clear a6
      go_enter Try.func70, Try.ntmps70
      go_wp2_with fail
      refine HL.out.mono ?_
      rintro e w1 ⟨u, rfl, ho, _, h1, hk⟩
      obtain ⟨A', d, rfl, hrow, _⟩ := ho.row
      have s1 := row_string hrow d
      have H1 := Lib.hid (FIN.out 0 w1 h1 hk)
      clear ho h1 hk hrow HL c0
      go_wp2_with fail
      go_ret
      exact ⟨rfl, H1.out⟩

/-- Amid a head: what is to be told, and the parser. -/
structure PS (w : World) (g R : Nat) (A : Option Addr) (c : Nat) (l : List Int) (i : Nat) (W : World) : Prop where
  res : Blk W w.heap.size 77 #[.int .u64 0, .int .u64 0, .int .u64 0, .int .u64 0, .int .u64 0]
  pa : PA W g R A c l i
  fr : Kept (PFt g R) w W
  lg : g < w.heap.size
  lr : R < w.heap.size
theorem PS.ne_ {w : World} {g R : Nat} (lg : g < w.heap.size) (lr : R < w.heap.size) : ¬ PFt g R w.heap.size := fun e => by
  rcases e with e | e <;> omega
theorem PS.step {w W V : World} {g R : Nat} {A : Option Addr} {c : Nat} {l : List Int} {i j : Nat} (h : PS w g R A c l i W) (hp : PP g R A c l j W V) : PS w g R A c l j V :=
  ⟨h.res.kept hp.2 (PS.ne_ h.lg h.lr), hp.1, h.fr.trans hp.2 fun _ _ e => e, h.lg, h.lr⟩

set_option maxHeartbeats 6400000 in
theorem cPnmHead_any (w : World) (h0 : Blk w g 105 #[.pointer (some ⟨R, 0, none⟩), .int .u8 0]) (h1 : NRd w R 75 [] A c l 0 0) (hf : ∀ b o, A = some ⟨b, o, none⟩ → 0 < l.length → b ≠ g) (hn : l.length ≤ 1000000000) :
    Calls Try.prog 48 #[.pointer (some ⟨g, 0, none⟩)] w fun e w' => e = .returned (hval (pnmH l)) ∧ Kept (PFt g R) w w' := by
  obtain ⟨n1, hn1⟩ : ∃ n1, n1 = cnm l (beg l) := ⟨_, rfl⟩
  obtain ⟨n2, hn2⟩ : ∃ n2, n2 = cnm l n1.2 := ⟨_, rfl⟩
  obtain ⟨n3, hn3⟩ : ∃ n3, n3 = cnm l n2.2 := ⟨_, rfl⟩
  obtain ⟨pl, hpl⟩ : ∃ pl, pl = plnQ l := ⟨_, rfl⟩
  obtain ⟨n, hnn⟩ : ∃ n, n = l.length := ⟨_, rfl⟩
  have Hn := Lib.hid (And.intro hnn hn)
  have hres : Blk (w.alloc (.cells #[.int .u64 0, .int .u64 0, .int .u64 0, .int .u64 0, .int .u64 0] 77)) w.heap.size 77 #[.int .u64 0, .int .u64 0, .int .u64 0, .int .u64 0, .int .u64 0] := Blk.new _ _ _
  have hb0 := h0.alloc (.cells #[.int .u64 0, .int .u64 0, .int .u64 0, .int .u64 0, .int .u64 0] 77)
  have hr0 := h1.kept ((Kept.refl (fun _ => False) w).alloc (.cells #[.int .u64 0, .int .u64 0, .int .u64 0, .int .u64 0, .int .u64 0] 77)) id (fun _ _ _ _ => id)
  have hfr : Kept (PFt g R) w (w.alloc (.cells #[.int .u64 0, .int .u64 0, .int .u64 0, .int .u64 0, .int .u64 0] 77)) := (Kept.refl _ _).alloc _
  have HG := Lib.hid (And.intro h0.lt h1.blk.lt)
  have HF := Lib.hid hf
  have HQ : Hid (pnmH l = if pl ≠ 0 ∧ (1 ≤ n3.1 ∧ n3.1 ≤ 255) ∧ blk (l.getD n3.2 0) then some (n1.1, n2.1, pl, n1.1 * pl, n3.2 + 1) else none) := Lib.hid (by
    unfold pnmH
    by_cases hh : hdP l
    · have hb : beg l = 2 := if_pos hh.1
      have hp : pl = plnP l := by rw [hpl]; exact if_pos hh
      have hz : pl ≠ 0 := by rw [hp]; unfold plnP; split <;> decide
      rw [hn3, hn2, hn1, hb, ← hp]
      by_cases hc : (1 ≤ (cnm l (cnm l (cnm l 2).2).2).1 ∧ (cnm l (cnm l (cnm l 2).2).2).1 ≤ 255) ∧ blk (l.getD (cnm l (cnm l (cnm l 2).2).2).2 0)
      · rw [if_pos ⟨hh, hc⟩, if_pos ⟨hz, hc⟩]
      · rw [if_neg (fun h => hc h.2), if_neg (fun h => hc h.2)]
    · have hp : pl = 0 := by rw [hpl]; exact if_neg hh
      rw [if_neg (fun h => hh h.1), if_neg (fun h => h.1 hp)])
  have HB : Hid (n1.1 < 100000 ∧ pl ≤ 3) := Lib.hid ⟨by rw [hn1]; exact cnm_lt l _, by rw [hpl]; unfold plnQ plnP; split <;> (try split) <;> omega⟩
  have HC := Lib.hid (And.intro hn1 (And.intro hn2 (And.intro hn3 hpl)))
  have c0 : (w.alloc (.cells #[.int .u64 0, .int .u64 0, .int .u64 0, .int .u64 0, .int .u64 0] 77)).cell? ⟨g, 0, none⟩ = some (.pointer (some ⟨R, 0, none⟩)) := (hb0.cell 0).trans rfl
  generalize hW0 : w.alloc (.cells #[.int .u64 0, .int .u64 0, .int .u64 0, .int .u64 0, .int .u64 0] 77) = W0 at *
  have H0 := Lib.hid (And.intro hres (And.intro hb0 (And.intro hr0 hfr)))
  clear h0 h1 hf hn hn1 hn2 hn3 hpl hnn hres hb0 hr0 hfr
  go_enter Try.func48, Try.ntmps48
  go_wp2_with fail
  clear hW0
  refine (nrLeft_any R _ [] A c l 0 0 W0 n H0.out.2.2.1 (by rw [Hn.out.1, Nat.zero_add])).mono ?_
  rintro e w1 ⟨rfl, k1, hk1⟩
  have H1 : Hid (Blk w1 w.heap.size 77 #[.int .u64 0, .int .u64 0, .int .u64 0, .int .u64 0, .int .u64 0] ∧ Blk w1 g 105 #[.pointer (some ⟨R, 0, none⟩), .int .u8 0] ∧ NRd w1 R 75 [] A c l 0 0 ∧ Kept (PFt g R) w w1) := Lib.hid (by
    rw [hk1]
    exact ⟨H0.out.1.drewN _, H0.out.2.1.drewN _, H0.out.2.2.1.drewN _, H0.out.2.2.2.drewN _⟩)
  clear hk1 c0 H0
  go_wp2_with fail
  refine (cPlanes_any g R A c l w1 H1.out.2.1 H1.out.2.2.1).mono ?_
  rw [← HC.out.2.2.2]
  rintro e w2 ⟨rfl, hb2, ⟨p2, r2, hr2, hp2⟩, hk2⟩
  have H2 := Lib.hid (And.intro (H1.out.1.kept hk2 (PS.ne_ HG.out.1 HG.out.2)) (And.intro hb2 (And.intro hr2 (And.intro hp2 (H1.out.2.2.2.trans hk2 fun _ _ e => e)))))
  clear hb2 hr2 hp2 hk2 H1
  go_wp2_with fail
  refine (cStep_from g R A c l (beg l) p2 r2 0 w2 (beg_le l) H2.out.2.1 H2.out.2.2.1 HF.out H2.out.2.2.2.1).mono ?_
  rintro e w3 ⟨rfl, hp3, hk3⟩
  have H3 : Hid (PS w g R A c l (beg l) w3) := Lib.hid ⟨H2.out.1.kept hk3 (PS.ne_ HG.out.1 HG.out.2), hp3, H2.out.2.2.2.2.trans hk3 fun _ _ e => e, HG.out.1, HG.out.2⟩
  clear hp3 hk3 H2
  go_wp2_with fail
  refine (cNumber_any g R A c l (beg l) w3 H3.out.pa).mono ?_
  rw [← HC.out.1]
  rintro e w4 ⟨rfl, hp⟩
  have H4 := Lib.hid (H3.out.step hp)
  clear hp H3
  go_wp2_with fail
  refine (cNumber_any g R A c l n1.2 w4 H4.out.pa).mono ?_
  rw [← HC.out.2.1]
  rintro e w5 ⟨rfl, hp⟩
  have H5 := Lib.hid (H4.out.step hp)
  clear hp H4
  go_wp2_with fail
  refine (cNumber_any g R A c l n2.2 w5 H5.out.pa).mono ?_
  rw [← HC.out.2.2.1]
  rintro e w6 ⟨rfl, hp⟩
  have H6 := Lib.hid (H5.out.step hp)
  clear hp H5
  obtain ⟨a1, i1⟩ := n1
  obtain ⟨a2, i2⟩ := n2
  obtain ⟨a3, i3⟩ := n3
  simp only [] at HQ HB H6 ⊢
  clear HC
  by_cases g1 : pl = 0
  · have g1' : ((pl : Int) == 0) = true := by simp; omega
    have HN : Hid (pnmH l = none) := Lib.hid (by rw [HQ.out, if_neg (fun h => h.1 g1)])
    have rz0 : w6.cell? ⟨w.heap.size, 0, none⟩ = some (.int .u64 0) := (H6.out.res.cell 0).trans rfl
    have rzf0 : w6.frozen? ⟨w.heap.size, 0, none⟩ = false := H6.out.res.frozen 0
    have rz1 : w6.cell? ⟨w.heap.size, 1, none⟩ = some (.int .u64 0) := (H6.out.res.cell 1).trans rfl
    have rzf1 : w6.frozen? ⟨w.heap.size, 1, none⟩ = false := H6.out.res.frozen 1
    have rz2 : w6.cell? ⟨w.heap.size, 2, none⟩ = some (.int .u64 0) := (H6.out.res.cell 2).trans rfl
    have rzf2 : w6.frozen? ⟨w.heap.size, 2, none⟩ = false := H6.out.res.frozen 2
    have rz3 : w6.cell? ⟨w.heap.size, 3, none⟩ = some (.int .u64 0) := (H6.out.res.cell 3).trans rfl
    have rzf3 : w6.frozen? ⟨w.heap.size, 3, none⟩ = false := H6.out.res.frozen 3
    have rz4 : w6.cell? ⟨w.heap.size, 4, none⟩ = some (.int .u64 0) := (H6.out.res.cell 4).trans rfl
    have rzf4 : w6.frozen? ⟨w.heap.size, 4, none⟩ = false := H6.out.res.frozen 4
    go_wp2_with fail
    refine bodyPost_ret (v := hval none) (by simp [results, Try.f48, go_sem, hval, rz0, rz1, rz2, rz3, rz4]) rfl ?_
    exact ⟨by rw [HN.out], set5k H6.out.fr _ _ _ _ _⟩
  · have g1' : ((pl : Int) == 0) = false := by simp; omega
    by_cases g2 : 1 ≤ a3
    · have g2' : ¬ (a3 : Int) < 1 := by omega
      by_cases g3 : a3 ≤ 255
      · have g3' : ¬ (255 : Int) < (a3 : Int) := by omega
        have c1 := H6.out.pa.c1
        have hx : 0 ≤ l.getD i3 0 ∧ l.getD i3 0 < 256 := by
          rcases Nat.lt_or_ge i3 l.length with h2 | h2
          · exact H6.out.pa.b8 _ (getD_mem h2)
          · rw [getD_past h2]; omega
        have HD := Lib.hid (cBlank_any (l.getD i3 0) w6 hx)
        have HLT : Hid (blk (l.getD i3 0) → i3 < l.length) := Lib.hid blk_lt
        generalize l.getD i3 0 = x at *
        clear hx
        by_cases g4 : blk x
        · rw [decide_eq_true g4] at HD
          have HR : Hid (pnmH l = some (a1, a2, pl, a1 * pl, i3 + 1)) := Lib.hid (by rw [HQ.out, if_pos ⟨g1, ⟨g2, g3⟩, g4⟩])
          have hi := HLT.out g4
          obtain ⟨p, err, hrd, hp, _⟩ := H6.out.pa.rd
          obtain ⟨rfl, rfl⟩ := hp hi
          obtain ⟨L, hL⟩ : ∃ L, i3 + 1 + L = n := ⟨n - (i3 + 1), by rw [Hn.out.1]; omega⟩
          have HL := Lib.hid (nrLeft_any R _ [] A c l (i3 + 1) 0 w6 L hrd (by rw [hL, Hn.out.1]))
          have hn := Hn.out.2
          rw [← Hn.out.1] at hn
          obtain ⟨st, hst⟩ : ∃ st, st = a1 * pl := ⟨_, rfl⟩
          obtain ⟨f, hfd⟩ : ∃ f, f = i3 + 1 := ⟨_, rfl⟩
          rw [← hst, ← hfd] at HR
          have e1 : (a1 : Int) * (pl : Int) = (st : Int) := by rw [hst]; simp
          have e2 : (n : Int) - (L : Int) = (f : Int) := by omega
          have r1 : (st : Int) ≤ 300000 := by
            have := Nat.mul_le_mul (Nat.le_of_lt HB.out.1) HB.out.2
            rw [← hst] at this
            omega
          have r2 : (f : Int) ≤ 1000000000 := by omega
          have c0 := H6.out.pa.c0
          clear hi hrd hp hL hn hst hfd g1 g2 g3 g4 HLT
          go_wp2_with fail
          refine HD.out.mono ?_
          rintro e w7 ⟨rfl, rfl⟩
          go_wp2_with fail
          refine HL.out.mono ?_
          rintro e w7 ⟨rfl, k7, hk7⟩
          have hb7 : Blk w7 w.heap.size 77 #[.int .u64 0, .int .u64 0, .int .u64 0, .int .u64 0, .int .u64 0] := by rw [hk7]; exact H6.out.res.drewN _
          have H7 : Hid (Kept (PFt g R) w w7) := Lib.hid (by rw [hk7]; exact H6.out.fr.drewN _)
          have rz0 : w7.cell? ⟨w.heap.size, 0, none⟩ = some (.int .u64 0) := (hb7.cell 0).trans rfl
          have rzf0 : w7.frozen? ⟨w.heap.size, 0, none⟩ = false := hb7.frozen 0
          have rz1 : w7.cell? ⟨w.heap.size, 1, none⟩ = some (.int .u64 0) := (hb7.cell 1).trans rfl
          have rzf1 : w7.frozen? ⟨w.heap.size, 1, none⟩ = false := hb7.frozen 1
          have rz2 : w7.cell? ⟨w.heap.size, 2, none⟩ = some (.int .u64 0) := (hb7.cell 2).trans rfl
          have rzf2 : w7.frozen? ⟨w.heap.size, 2, none⟩ = false := hb7.frozen 2
          have rz3 : w7.cell? ⟨w.heap.size, 3, none⟩ = some (.int .u64 0) := (hb7.cell 3).trans rfl
          have rzf3 : w7.frozen? ⟨w.heap.size, 3, none⟩ = false := hb7.frozen 3
          have rz4 : w7.cell? ⟨w.heap.size, 4, none⟩ = some (.int .u64 0) := (hb7.cell 4).trans rfl
          have rzf4 : w7.frozen? ⟨w.heap.size, 4, none⟩ = false := hb7.frozen 4
          clear hk7 hb7 HL
          go_wp2_with fail
          refine bodyPost_ret (v := hval (some (a1, a2, pl, st, f))) (by simp [results, Try.f48, go_sem, hval, rz0, rz1, rz2, rz3, rz4]) rfl ?_
          exact ⟨by rw [HR.out], set5k H7.out _ _ _ _ _⟩
        · rw [decide_eq_false g4] at HD
          have HN : Hid (pnmH l = none) := Lib.hid (by rw [HQ.out, if_neg (fun h => g4 h.2.2)])
          have rz0 : w6.cell? ⟨w.heap.size, 0, none⟩ = some (.int .u64 0) := (H6.out.res.cell 0).trans rfl
          have rzf0 : w6.frozen? ⟨w.heap.size, 0, none⟩ = false := H6.out.res.frozen 0
          have rz1 : w6.cell? ⟨w.heap.size, 1, none⟩ = some (.int .u64 0) := (H6.out.res.cell 1).trans rfl
          have rzf1 : w6.frozen? ⟨w.heap.size, 1, none⟩ = false := H6.out.res.frozen 1
          have rz2 : w6.cell? ⟨w.heap.size, 2, none⟩ = some (.int .u64 0) := (H6.out.res.cell 2).trans rfl
          have rzf2 : w6.frozen? ⟨w.heap.size, 2, none⟩ = false := H6.out.res.frozen 2
          have rz3 : w6.cell? ⟨w.heap.size, 3, none⟩ = some (.int .u64 0) := (H6.out.res.cell 3).trans rfl
          have rzf3 : w6.frozen? ⟨w.heap.size, 3, none⟩ = false := H6.out.res.frozen 3
          have rz4 : w6.cell? ⟨w.heap.size, 4, none⟩ = some (.int .u64 0) := (H6.out.res.cell 4).trans rfl
          have rzf4 : w6.frozen? ⟨w.heap.size, 4, none⟩ = false := H6.out.res.frozen 4
          go_wp2_with fail
          refine HD.out.mono ?_
          rintro e w7 ⟨rfl, rfl⟩
          go_wp2_with fail
          refine bodyPost_ret (v := hval none) (by simp [results, Try.f48, go_sem, hval, rz0, rz1, rz2, rz3, rz4]) rfl ?_
          exact ⟨by rw [HN.out], set5k H6.out.fr _ _ _ _ _⟩
      · have g3' : (255 : Int) < (a3 : Int) := by omega
        have HN : Hid (pnmH l = none) := Lib.hid (by rw [HQ.out, if_neg (fun h => g3 h.2.1.2)])
        have rz0 : w6.cell? ⟨w.heap.size, 0, none⟩ = some (.int .u64 0) := (H6.out.res.cell 0).trans rfl
        have rzf0 : w6.frozen? ⟨w.heap.size, 0, none⟩ = false := H6.out.res.frozen 0
        have rz1 : w6.cell? ⟨w.heap.size, 1, none⟩ = some (.int .u64 0) := (H6.out.res.cell 1).trans rfl
        have rzf1 : w6.frozen? ⟨w.heap.size, 1, none⟩ = false := H6.out.res.frozen 1
        have rz2 : w6.cell? ⟨w.heap.size, 2, none⟩ = some (.int .u64 0) := (H6.out.res.cell 2).trans rfl
        have rzf2 : w6.frozen? ⟨w.heap.size, 2, none⟩ = false := H6.out.res.frozen 2
        have rz3 : w6.cell? ⟨w.heap.size, 3, none⟩ = some (.int .u64 0) := (H6.out.res.cell 3).trans rfl
        have rzf3 : w6.frozen? ⟨w.heap.size, 3, none⟩ = false := H6.out.res.frozen 3
        have rz4 : w6.cell? ⟨w.heap.size, 4, none⟩ = some (.int .u64 0) := (H6.out.res.cell 4).trans rfl
        have rzf4 : w6.frozen? ⟨w.heap.size, 4, none⟩ = false := H6.out.res.frozen 4
        go_wp2_with fail
        refine bodyPost_ret (v := hval none) (by simp [results, Try.f48, go_sem, hval, rz0, rz1, rz2, rz3, rz4]) rfl ?_
        exact ⟨by rw [HN.out], set5k H6.out.fr _ _ _ _ _⟩
    · have g2' : (a3 : Int) < 1 := by omega
      have HN : Hid (pnmH l = none) := Lib.hid (by rw [HQ.out, if_neg (fun h => g2 h.2.1.1)])
      have rz0 : w6.cell? ⟨w.heap.size, 0, none⟩ = some (.int .u64 0) := (H6.out.res.cell 0).trans rfl
      have rzf0 : w6.frozen? ⟨w.heap.size, 0, none⟩ = false := H6.out.res.frozen 0
      have rz1 : w6.cell? ⟨w.heap.size, 1, none⟩ = some (.int .u64 0) := (H6.out.res.cell 1).trans rfl
      have rzf1 : w6.frozen? ⟨w.heap.size, 1, none⟩ = false := H6.out.res.frozen 1
      have rz2 : w6.cell? ⟨w.heap.size, 2, none⟩ = some (.int .u64 0) := (H6.out.res.cell 2).trans rfl
      have rzf2 : w6.frozen? ⟨w.heap.size, 2, none⟩ = false := H6.out.res.frozen 2
      have rz3 : w6.cell? ⟨w.heap.size, 3, none⟩ = some (.int .u64 0) := (H6.out.res.cell 3).trans rfl
      have rzf3 : w6.frozen? ⟨w.heap.size, 3, none⟩ = false := H6.out.res.frozen 3
      have rz4 : w6.cell? ⟨w.heap.size, 4, none⟩ = some (.int .u64 0) := (H6.out.res.cell 4).trans rfl
      have rzf4 : w6.frozen? ⟨w.heap.size, 4, none⟩ = false := H6.out.res.frozen 4
      go_wp2_with fail
      refine bodyPost_ret (v := hval none) (by simp [results, Try.f48, go_sem, hval, rz0, rz1, rz2, rz3, rz4]) rfl ?_
      exact ⟨by rw [HN.out], set5k H6.out.fr _ _ _ _ _⟩

end

set_option maxHeartbeats 1600000 in
theorem cNewPnm_any (A : Option Addr) (n c : Nat) (l : List Int) (w : World) (hr : Row w .u8 A n l) (h8 : B8 l) (hn : n ≤ 1000000000) :
    Calls Try.prog 47 #[.slice A n c] w fun e w' => ∃ g R A' c', e = .returned (.pointer (some ⟨g, 0, none⟩)) ∧ Blk w' g 105 #[.pointer (some ⟨R, 0, none⟩), .int .u8 0] ∧ NRd w' R 75 [] A' c' l 0 0 ∧ (∀ b o, A' = some ⟨b, o, none⟩ → 0 < l.length → b ≠ g) ∧ w.heap.size ≤ g ∧ w.heap.size ≤ R ∧ Fresh w w' := by
  have HN := Lib.hid (nrNew_any A n c l w hr h8 (by omega))
  clear hr
  go_enter Try.func47, Try.ntmps47
  go_wp2_with fail
  refine HN.out.mono ?_
  rintro e w1 ⟨R, A', c', rfl, h1, h2, _, h4⟩
  have H1 := Lib.hid (And.intro h1 (And.intro h2 h4))
  clear h1 h2 h4 HN
  go_wp2_with fail
  go_ret
  refine ⟨w1.heap.size, R, A', c', rfl, Blk.new _ _ _, H1.out.1.kept ((Kept.refl (fun _ => False) _).alloc _) id (fun _ _ _ _ => id), fun b o e hp => ?_, H1.out.2.2.size, H1.out.2.1, H1.out.2.2.alloc _⟩
  obtain ⟨b', o', e', hlt, _⟩ := H1.out.1.row.at_ 0 hp
  rw [e] at e'
  injection e' with e'
  injection e' with e1 e2
  omega

set_option maxHeartbeats 1600000 in
/-- Pnm: P16.2. -/
theorem cPnm_any (A : Option Addr) (n c : Nat) (l : List Int) (w : World) (hr : Row w .u8 A n l) (h8 : B8 l) (hn : n ≤ 1000000000) :
    Calls Try.prog 27 #[.slice A n c] w fun e w' => e = .returned (.tuple #[pval (pnmP l), .bool (pnmP l).isSome]) ∧ Fresh w w' := by
  obtain rfl := hr.len
  obtain ⟨W0, hW0⟩ : ∃ W0, W0 = w.alloc (.cells #[.int .i64 0, .int .i64 0, .int .i64 0, .int .i64 0, .int .i64 0] 28) := ⟨_, rfl⟩
  have hf0 : Fresh w W0 := by rw [hW0]; exact (Kept.refl _ _).alloc _
  have hb0 : Blk W0 w.heap.size 28 #[.int .i64 0, .int .i64 0, .int .i64 0, .int .i64 0, .int .i64 0] := by rw [hW0]; exact Blk.new _ _ _
  have HN := Lib.hid (cNewPnm_any A l.length c l W0 (hr.kept hf0 (fun _ _ _ _ => id)) h8 hn)
  have H0 := Lib.hid (And.intro hf0 hb0)
  have HC := Lib.hid (And.intro h8 hn)
  obtain ⟨n, hnn⟩ : ∃ n, n = l.length := ⟨_, rfl⟩
  have Hn := Lib.hid hnn
  rw [← hnn] at HN ⊢
  clear hr h8 hn hf0 hb0 hnn
  go_enter Try.func27, Try.ntmps27
  go_wp2_with fail
  rw [← hW0]
  clear hW0
  refine HN.out.mono ?_
  rintro e w1 ⟨g, R, A', c', rfl, h1, h2, h3, h4, h5, h6⟩
  have H1 := Lib.hid (And.intro h1 (And.intro h2 (And.intro h3 (And.intro h4 (And.intro h5 h6)))))
  clear h1 h2 h3 h4 h5 h6 HN
  go_wp2_with fail
  refine (cPnmHead_any g R A' c' l w1 H1.out.1 H1.out.2.1 (by rw [← Hn.out]; exact H1.out.2.2.1) HC.out.2).mono ?_
  rintro e w2 ⟨rfl, hk⟩
  have hf2 : Fresh W0 w2 := H1.out.2.2.2.2.2.trans hk fun i hi e => by
    rcases e with e | e
    · have := H1.out.2.2.2.1; omega
    · have := H1.out.2.2.2.2.1; omega
  have H2 := Lib.hid hf2
  clear hk hf2
  go_wp2_with fail
  refine (cWithin_any (pnmH l) n w2 (fun r hr => pnmH_ok HC.out.2 hr) (by rw [Hn.out]; exact HC.out.2)).mono ?_
  rw [show fitO n (pnmH l) = pnmP l from by rw [Hn.out, pnmP_fit]]
  rintro e w3 ⟨rfl, hf3⟩
  have hf := H2.out.trans hf3 fun _ _ e => e
  have hr := H0.out.2.kept hf id
  obtain ⟨o, ho⟩ : ∃ o, o = pnmP l := ⟨_, rfl⟩
  rw [← ho]
  have Ho := Lib.hid ho
  have HF := Lib.hid (H0.out.1.trans hf fun _ _ e => e)
  have rz0 : w3.cell? ⟨w.heap.size, 0, none⟩ = some (.int .i64 0) := (hr.cell 0).trans rfl
  have rzf0 : w3.frozen? ⟨w.heap.size, 0, none⟩ = false := hr.frozen 0
  have rz1 : w3.cell? ⟨w.heap.size, 1, none⟩ = some (.int .i64 0) := (hr.cell 1).trans rfl
  have rzf1 : w3.frozen? ⟨w.heap.size, 1, none⟩ = false := hr.frozen 1
  have rz2 : w3.cell? ⟨w.heap.size, 2, none⟩ = some (.int .i64 0) := (hr.cell 2).trans rfl
  have rzf2 : w3.frozen? ⟨w.heap.size, 2, none⟩ = false := hr.frozen 2
  have rz3 : w3.cell? ⟨w.heap.size, 3, none⟩ = some (.int .i64 0) := (hr.cell 3).trans rfl
  have rzf3 : w3.frozen? ⟨w.heap.size, 3, none⟩ = false := hr.frozen 3
  have rz4 : w3.cell? ⟨w.heap.size, 4, none⟩ = some (.int .i64 0) := (hr.cell 4).trans rfl
  have rzf4 : w3.frozen? ⟨w.heap.size, 4, none⟩ = false := hr.frozen 4
  clear hf3 hf hr ho
  cases o with
  | none =>
    simp only [pval, Option.isSome_none]
    go_wp2_with fail
    refine bodyPost_ret (v := .tuple #[pval none, .bool false]) (by simp [results, Try.f27, go_sem, pval, rz0, rz1, rz2, rz3, rz4]) rfl ?_
    exact ⟨by rw [← Ho.out]; rfl, set5 HF.out _ _ _ _ _⟩
  | some r =>
    simp only [pval, Option.isSome_some]
    go_wp2_with fail
    refine bodyPost_ret (v := .tuple #[pval (some r), .bool true]) (by simp [results, Try.f27, go_sem, pval, rz0, rz1, rz2, rz3, rz4]) rfl ?_
    exact ⟨by rw [← Ho.out]; rfl, set5 HF.out _ _ _ _ _⟩


set_option maxHeartbeats 3200000 in
/-- Parse: P16.2 (the code). -/
theorem cPic_any (A : Option Addr) (n c : Nat) (l : List Int) (w : World) (hr : Row w .u8 A n l) (h8 : B8 l) (hn : n ≤ 1000000000) (hnc : n ≤ c) :
    Calls Try.prog 14 #[.slice A n c] w fun e w' => e = .returned (.tuple #[pval (picP l), .bool (picP l).isSome]) ∧ Fresh w w' := by
  obtain ⟨W0, hW0⟩ : ∃ W0, W0 = w.alloc (.cells #[.int .i64 0, .int .i64 0, .int .i64 0, .int .i64 0, .int .i64 0] 28) := ⟨_, rfl⟩
  have hf0 : Fresh w W0 := by rw [hW0]; exact (Kept.refl _ _).alloc _
  have hb0 : Blk W0 w.heap.size 28 #[.int .i64 0, .int .i64 0, .int .i64 0, .int .i64 0, .int .i64 0] := by rw [hW0]; exact Blk.new _ _ _
  have HB := Lib.hid (cBmp_any A n c l W0 (hr.kept hf0 (fun _ _ _ _ => id)) h8 hn hnc)
  have HP : Hid (∀ V, Fresh w V → Calls Try.prog 27 #[.slice A n c] V fun e w' => e = .returned (.tuple #[pval (pnmP l), .bool (pnmP l).isSome]) ∧ Fresh V w') := Lib.hid fun V hV => cPnm_any A n c l V (hr.kept hV (fun _ _ _ _ => id)) h8 hn
  have HQ : Hid (picP l = if (bmpP l).isSome then bmpP l else pnmP l) := Lib.hid rfl
  have H0 := Lib.hid (And.intro hf0 hb0)
  clear hr h8 hn hf0 hb0 hnc
  obtain ⟨Q, hQ⟩ : ∃ Q, Q = picP l := ⟨_, rfl⟩
  rw [← hQ] at HQ ⊢
  clear hQ
  generalize bmpP l = o at *
  generalize pnmP l = u at *
  cases o with
  | some r =>
    have HE : Hid (Q = some r) := Lib.hid HQ.out
    simp only [pval, Option.isSome_some] at HB
    clear HQ HP
    go_enter Try.func14, Try.ntmps14
    go_wp2_with fail
    rw [← hW0]
    clear hW0
    refine HB.out.mono ?_
    rintro e w1 ⟨rfl, h1⟩
    have hr := H0.out.2.kept h1 id
    have H1 := Lib.hid (H0.out.1.trans h1 fun _ _ e => e)
    obtain ⟨ra, rb, rp, rs, rf⟩ := r
    simp only []
    obtain ⟨W2, hW2⟩ : ∃ W2, w1.alloc (.cells #[.int .i64 (ra : Nat), .int .i64 (rb : Nat), .int .i64 (rp : Nat), .int .i64 (rs : Nat), .int .i64 (rf : Nat)] 28) = W2 := ⟨_, rfl⟩
    have hp : Blk W2 w1.heap.size 28 #[.int .i64 (ra : Nat), .int .i64 (rb : Nat), .int .i64 (rp : Nat), .int .i64 (rs : Nat), .int .i64 (rf : Nat)] := by rw [← hW2]; exact Blk.new _ _ _
    have hr2 : Blk W2 w.heap.size 28 #[.int .i64 0, .int .i64 0, .int .i64 0, .int .i64 0, .int .i64 0] := by rw [← hW2]; exact hr.alloc _
    have H2 : Hid (Fresh w W2) := Lib.hid (by rw [← hW2]; exact H1.out.alloc _)
    have rz0 : W2.cell? ⟨w.heap.size, 0, none⟩ = some (.int .i64 0) := (hr2.cell 0).trans rfl
    have rzf0 : W2.frozen? ⟨w.heap.size, 0, none⟩ = false := hr2.frozen 0
    have rz1 : W2.cell? ⟨w.heap.size, 1, none⟩ = some (.int .i64 0) := (hr2.cell 1).trans rfl
    have rzf1 : W2.frozen? ⟨w.heap.size, 1, none⟩ = false := hr2.frozen 1
    have rz2 : W2.cell? ⟨w.heap.size, 2, none⟩ = some (.int .i64 0) := (hr2.cell 2).trans rfl
    have rzf2 : W2.frozen? ⟨w.heap.size, 2, none⟩ = false := hr2.frozen 2
    have rz3 : W2.cell? ⟨w.heap.size, 3, none⟩ = some (.int .i64 0) := (hr2.cell 3).trans rfl
    have rzf3 : W2.frozen? ⟨w.heap.size, 3, none⟩ = false := hr2.frozen 3
    have rz4 : W2.cell? ⟨w.heap.size, 4, none⟩ = some (.int .i64 0) := (hr2.cell 4).trans rfl
    have rzf4 : W2.frozen? ⟨w.heap.size, 4, none⟩ = false := hr2.frozen 4
    have pc0 : W2.cell? ⟨w1.heap.size, 0, none⟩ = some (.int .i64 (ra : Nat)) := (hp.cell 0).trans rfl
    have pcf0 : W2.frozen? ⟨w1.heap.size, 0, none⟩ = false := hp.frozen 0
    have pc1 : W2.cell? ⟨w1.heap.size, 1, none⟩ = some (.int .i64 (rb : Nat)) := (hp.cell 1).trans rfl
    have pcf1 : W2.frozen? ⟨w1.heap.size, 1, none⟩ = false := hp.frozen 1
    have pc2 : W2.cell? ⟨w1.heap.size, 2, none⟩ = some (.int .i64 (rp : Nat)) := (hp.cell 2).trans rfl
    have pcf2 : W2.frozen? ⟨w1.heap.size, 2, none⟩ = false := hp.frozen 2
    have pc3 : W2.cell? ⟨w1.heap.size, 3, none⟩ = some (.int .i64 (rs : Nat)) := (hp.cell 3).trans rfl
    have pcf3 : W2.frozen? ⟨w1.heap.size, 3, none⟩ = false := hp.frozen 3
    have pc4 : W2.cell? ⟨w1.heap.size, 4, none⟩ = some (.int .i64 (rf : Nat)) := (hp.cell 4).trans rfl
    have pcf4 : W2.frozen? ⟨w1.heap.size, 4, none⟩ = false := hp.frozen 4
    clear h1 hr hr2 hp HB
    go_wp2_with fail
    refine bodyPost_ret (v := .tuple #[pval (some (ra, rb, rp, rs, rf)), .bool true]) (by simp [results, Try.f14, go_sem, pval, rz0, rz1, rz2, rz3, rz4]) rfl ?_
    exact ⟨by rw [HE.out]; rfl, set5 H2.out _ _ _ _ _⟩
  | none =>
    have HE : Hid (Q = u) := Lib.hid HQ.out
    simp only [pval, Option.isSome_none] at HB
    clear HQ
    go_enter Try.func14, Try.ntmps14
    go_wp2_with fail
    rw [← hW0]
    clear hW0
    refine HB.out.mono ?_
    rintro e w1 ⟨rfl, h1⟩
    have hr1 := H0.out.2.kept h1 id
    have H1 := Lib.hid (And.intro hr1 (H0.out.1.trans h1 fun _ _ e => e))
    clear h1 HB hr1
    go_wp2_with fail
    refine (HP.out _ (H1.out.2.alloc _)).mono ?_
    rintro e w2 ⟨rfl, h2⟩
    have hr := (H1.out.1.alloc _).kept h2 id
    have H2 := Lib.hid ((H1.out.2.alloc _).trans h2 fun _ _ e => e)
    have rz0 : w2.cell? ⟨w.heap.size, 0, none⟩ = some (.int .i64 0) := (hr.cell 0).trans rfl
    have rzf0 : w2.frozen? ⟨w.heap.size, 0, none⟩ = false := hr.frozen 0
    have rz1 : w2.cell? ⟨w.heap.size, 1, none⟩ = some (.int .i64 0) := (hr.cell 1).trans rfl
    have rzf1 : w2.frozen? ⟨w.heap.size, 1, none⟩ = false := hr.frozen 1
    have rz2 : w2.cell? ⟨w.heap.size, 2, none⟩ = some (.int .i64 0) := (hr.cell 2).trans rfl
    have rzf2 : w2.frozen? ⟨w.heap.size, 2, none⟩ = false := hr.frozen 2
    have rz3 : w2.cell? ⟨w.heap.size, 3, none⟩ = some (.int .i64 0) := (hr.cell 3).trans rfl
    have rzf3 : w2.frozen? ⟨w.heap.size, 3, none⟩ = false := hr.frozen 3
    have rz4 : w2.cell? ⟨w.heap.size, 4, none⟩ = some (.int .i64 0) := (hr.cell 4).trans rfl
    have rzf4 : w2.frozen? ⟨w.heap.size, 4, none⟩ = false := hr.frozen 4
    clear h2 hr
    cases u with
    | none =>
      simp only [pval, Option.isSome_none]
      go_wp2_with fail
      refine bodyPost_ret (v := .tuple #[pval none, .bool false]) (by simp [results, Try.f14, go_sem, pval, rz0, rz1, rz2, rz3, rz4]) rfl ?_
      exact ⟨by rw [HE.out]; rfl, set5 H2.out _ _ _ _ _⟩
    | some r =>
      simp only [pval, Option.isSome_some]
      go_wp2_with fail
      refine bodyPost_ret (v := .tuple #[pval (some r), .bool true]) (by simp [results, Try.f14, go_sem, pval, rz0, rz1, rz2, rz3, rz4]) rfl ?_
      exact ⟨by rw [HE.out]; rfl, set5 H2.out _ _ _ _ _⟩

set_option maxHeartbeats 3200000 in
/-- Parse: P16.2 (the document). -/
theorem qPic_any (A : Option Addr) (n c : Nat) (l : List Int) (w : World) (hr : Row w .u8 A n l) (h8 : B8 l) (hn : n ≤ 1000000000) (hnc : n ≤ c) :
    Calls Try.prog 9 #[.slice A n c] w fun e w' => e = .returned (.tuple #[pval (picP l), .bool (picP l).isSome]) ∧ Fresh w w' := by
  obtain ⟨W0, hW0⟩ : ∃ W0, W0 = w.alloc (.cells #[.int .i64 0, .int .i64 0, .int .i64 0, .int .i64 0, .int .i64 0] 28) := ⟨_, rfl⟩
  have hf0 : Fresh w W0 := by rw [hW0]; exact (Kept.refl _ _).alloc _
  have hb0 : Blk W0 w.heap.size 28 #[.int .i64 0, .int .i64 0, .int .i64 0, .int .i64 0, .int .i64 0] := by rw [hW0]; exact Blk.new _ _ _
  have HB := Lib.hid (qBmp_any A n c l W0 (hr.kept hf0 (fun _ _ _ _ => id)) h8 hn hnc)
  have HP : Hid (∀ V, Fresh w V → Calls Try.prog 21 #[.slice A n c] V fun e w' => e = .returned (.tuple #[pval (pnmP l), .bool (pnmP l).isSome]) ∧ Fresh V w') := Lib.hid fun V hV => qPnm_any A n c l V (hr.kept hV (fun _ _ _ _ => id)) h8 hn
  have HQ : Hid (picP l = if (bmpP l).isSome then bmpP l else pnmP l) := Lib.hid rfl
  have H0 := Lib.hid (And.intro hf0 hb0)
  clear hr h8 hn hf0 hb0 hnc
  obtain ⟨Q, hQ⟩ : ∃ Q, Q = picP l := ⟨_, rfl⟩
  rw [← hQ] at HQ ⊢
  clear hQ
  generalize bmpP l = o at *
  generalize pnmP l = u at *
  cases o with
  | some r =>
    have HE : Hid (Q = some r) := Lib.hid HQ.out
    simp only [pval, Option.isSome_some] at HB
    clear HQ HP
    go_enter Try.func9, Try.ntmps9
    go_wp2_with fail
    rw [← hW0]
    clear hW0
    refine HB.out.mono ?_
    rintro e w1 ⟨rfl, h1⟩
    have hr := H0.out.2.kept h1 id
    have H1 := Lib.hid (H0.out.1.trans h1 fun _ _ e => e)
    obtain ⟨ra, rb, rp, rs, rf⟩ := r
    simp only []
    obtain ⟨W2, hW2⟩ : ∃ W2, w1.alloc (.cells #[.int .i64 (ra : Nat), .int .i64 (rb : Nat), .int .i64 (rp : Nat), .int .i64 (rs : Nat), .int .i64 (rf : Nat)] 28) = W2 := ⟨_, rfl⟩
    have hp : Blk W2 w1.heap.size 28 #[.int .i64 (ra : Nat), .int .i64 (rb : Nat), .int .i64 (rp : Nat), .int .i64 (rs : Nat), .int .i64 (rf : Nat)] := by rw [← hW2]; exact Blk.new _ _ _
    have hr2 : Blk W2 w.heap.size 28 #[.int .i64 0, .int .i64 0, .int .i64 0, .int .i64 0, .int .i64 0] := by rw [← hW2]; exact hr.alloc _
    have H2 : Hid (Fresh w W2) := Lib.hid (by rw [← hW2]; exact H1.out.alloc _)
    have rz0 : W2.cell? ⟨w.heap.size, 0, none⟩ = some (.int .i64 0) := (hr2.cell 0).trans rfl
    have rzf0 : W2.frozen? ⟨w.heap.size, 0, none⟩ = false := hr2.frozen 0
    have rz1 : W2.cell? ⟨w.heap.size, 1, none⟩ = some (.int .i64 0) := (hr2.cell 1).trans rfl
    have rzf1 : W2.frozen? ⟨w.heap.size, 1, none⟩ = false := hr2.frozen 1
    have rz2 : W2.cell? ⟨w.heap.size, 2, none⟩ = some (.int .i64 0) := (hr2.cell 2).trans rfl
    have rzf2 : W2.frozen? ⟨w.heap.size, 2, none⟩ = false := hr2.frozen 2
    have rz3 : W2.cell? ⟨w.heap.size, 3, none⟩ = some (.int .i64 0) := (hr2.cell 3).trans rfl
    have rzf3 : W2.frozen? ⟨w.heap.size, 3, none⟩ = false := hr2.frozen 3
    have rz4 : W2.cell? ⟨w.heap.size, 4, none⟩ = some (.int .i64 0) := (hr2.cell 4).trans rfl
    have rzf4 : W2.frozen? ⟨w.heap.size, 4, none⟩ = false := hr2.frozen 4
    have pc0 : W2.cell? ⟨w1.heap.size, 0, none⟩ = some (.int .i64 (ra : Nat)) := (hp.cell 0).trans rfl
    have pcf0 : W2.frozen? ⟨w1.heap.size, 0, none⟩ = false := hp.frozen 0
    have pc1 : W2.cell? ⟨w1.heap.size, 1, none⟩ = some (.int .i64 (rb : Nat)) := (hp.cell 1).trans rfl
    have pcf1 : W2.frozen? ⟨w1.heap.size, 1, none⟩ = false := hp.frozen 1
    have pc2 : W2.cell? ⟨w1.heap.size, 2, none⟩ = some (.int .i64 (rp : Nat)) := (hp.cell 2).trans rfl
    have pcf2 : W2.frozen? ⟨w1.heap.size, 2, none⟩ = false := hp.frozen 2
    have pc3 : W2.cell? ⟨w1.heap.size, 3, none⟩ = some (.int .i64 (rs : Nat)) := (hp.cell 3).trans rfl
    have pcf3 : W2.frozen? ⟨w1.heap.size, 3, none⟩ = false := hp.frozen 3
    have pc4 : W2.cell? ⟨w1.heap.size, 4, none⟩ = some (.int .i64 (rf : Nat)) := (hp.cell 4).trans rfl
    have pcf4 : W2.frozen? ⟨w1.heap.size, 4, none⟩ = false := hp.frozen 4
    clear h1 hr hr2 hp HB
    go_wp2_with fail
    refine bodyPost_ret (v := .tuple #[pval (some (ra, rb, rp, rs, rf)), .bool true]) (by simp [results, Try.f9, go_sem, pval, rz0, rz1, rz2, rz3, rz4]) rfl ?_
    exact ⟨by rw [HE.out]; rfl, set5 H2.out _ _ _ _ _⟩
  | none =>
    have HE : Hid (Q = u) := Lib.hid HQ.out
    simp only [pval, Option.isSome_none] at HB
    clear HQ
    go_enter Try.func9, Try.ntmps9
    go_wp2_with fail
    rw [← hW0]
    clear hW0
    refine HB.out.mono ?_
    rintro e w1 ⟨rfl, h1⟩
    have hr1 := H0.out.2.kept h1 id
    have H1 := Lib.hid (And.intro hr1 (H0.out.1.trans h1 fun _ _ e => e))
    clear h1 HB hr1
    go_wp2_with fail
    refine (HP.out _ (H1.out.2.alloc _)).mono ?_
    rintro e w2 ⟨rfl, h2⟩
    have hr := (H1.out.1.alloc _).kept h2 id
    have H2 := Lib.hid ((H1.out.2.alloc _).trans h2 fun _ _ e => e)
    have rz0 : w2.cell? ⟨w.heap.size, 0, none⟩ = some (.int .i64 0) := (hr.cell 0).trans rfl
    have rzf0 : w2.frozen? ⟨w.heap.size, 0, none⟩ = false := hr.frozen 0
    have rz1 : w2.cell? ⟨w.heap.size, 1, none⟩ = some (.int .i64 0) := (hr.cell 1).trans rfl
    have rzf1 : w2.frozen? ⟨w.heap.size, 1, none⟩ = false := hr.frozen 1
    have rz2 : w2.cell? ⟨w.heap.size, 2, none⟩ = some (.int .i64 0) := (hr.cell 2).trans rfl
    have rzf2 : w2.frozen? ⟨w.heap.size, 2, none⟩ = false := hr.frozen 2
    have rz3 : w2.cell? ⟨w.heap.size, 3, none⟩ = some (.int .i64 0) := (hr.cell 3).trans rfl
    have rzf3 : w2.frozen? ⟨w.heap.size, 3, none⟩ = false := hr.frozen 3
    have rz4 : w2.cell? ⟨w.heap.size, 4, none⟩ = some (.int .i64 0) := (hr.cell 4).trans rfl
    have rzf4 : w2.frozen? ⟨w.heap.size, 4, none⟩ = false := hr.frozen 4
    clear h2 hr
    cases u with
    | none =>
      simp only [pval, Option.isSome_none]
      go_wp2_with fail
      refine bodyPost_ret (v := .tuple #[pval none, .bool false]) (by simp [results, Try.f9, go_sem, pval, rz0, rz1, rz2, rz3, rz4]) rfl ?_
      exact ⟨by rw [HE.out]; rfl, set5 H2.out _ _ _ _ _⟩
    | some r =>
      simp only [pval, Option.isSome_some]
      go_wp2_with fail
      refine bodyPost_ret (v := .tuple #[pval (some r), .bool true]) (by simp [results, Try.f9, go_sem, pval, rz0, rz1, rz2, rz3, rz4]) rfl ?_
      exact ⟨by rw [HE.out]; rfl, set5 H2.out _ _ _ _ _⟩

end Go.Proofs.Ythfifpapkknodaa

/- From a walk of a law (it answers true and leaves all that was there) to the given row. -/
namespace Go.Proofs.Ythfifpapkknodaa
open Go.ChangeShapes Go.WideShapes Go.ChangeAt Go.RowKit

theorem Try.own : ownKnob Try.prog.godebug = none := by kernel_rfl
theorem Try.laidOut : laidOutB Try.prog = true := by kernel_rfl

theorem trodAll_below {H : Type} {enc : TypeId × Value → H} {P : Program} (hl : laidOutB P = true) {W W' : World} (hb : Below W.heap.size W W') :
    ∀ {ts : List TypeId} {vs : List Value} {ds : List (DataW H)} {ps : List MemPlace}, ts.all (fun t => P.readableRec t && decide (t < P.types.size)) = true →
      DataW.TrodAll enc P W 0 (fun _ => true) true ts vs ds ps → DataW.TrodAll enc P W' 0 (fun b => decide (b < W.heap.size)) true ts vs ds ps
  | [], [], [], _, _, h => h
  | t :: ts, v :: vs, d :: ds, ps, ha, h => by
    obtain ⟨p, q, h1, h2, e⟩ := h
    rw [List.all_cons, Bool.and_eq_true, Bool.and_eq_true] at ha
    refine ⟨p, q, Below.trod hl ha.1.1 (of_decide_eq_true ha.1.2) h1 hb ?_, trodAll_below hl hb ha.2 h2, e⟩
    obtain ⟨n, hn⟩ := h1
    exact DataW.trod_lt n _ _ _ hn

theorem trodAll_length {H : Type} {enc : TypeId × Value → H} {P : Program} {W : World} {b : Nat} {sp : Nat → Bool} {hd : Bool} :
    ∀ {ts : List TypeId} {vs : List Value} {ds : List (DataW H)} {ps : List MemPlace}, DataW.TrodAll enc P W b sp hd ts vs ds ps → vs.length = ts.length ∧ ds.length = ts.length
  | [], [], [], _, _ => ⟨rfl, rfl⟩
  | _ :: _, _ :: _, _ :: _, _, h => by
    obtain ⟨p, q, _, h2, _⟩ := h
    have := trodAll_length h2
    exact ⟨by simp [this.1], by simp [this.2]⟩

/-- The contract that the row asks for, out of the walk's. -/
theorem law_post {H : Type} {enc : TypeId × Value → H} {fn : Func} {s : ChangeSpec} {W W' : World} {args : Array Value} {ds gs : List (DataW H)} {before : List MemPlace} {bt : TypeId}
    (hrt : fn.resultTypes = #[bt]) (hbt : Try.prog.underlying bt = some .bool) (hread : fn.params.toList.all (fun t => Try.prog.readableRec t && decide (t < Try.prog.types.size)) = true)
    (hv : s.vars = []) (hs : ∀ ds : List (DataW H), ds.length = fn.params.toList.length → (s.fn H ds).results = [.lit (.bool true)] ∧ (s.fn H ds).args = ds ∧ (s.fn H ds).vars = [])
    (hW : DataW.Whole enc Try.prog fn.params.toList s.vars false W args.toList ds gs before) (hb : Below W.heap.size W W') :
    s.post enc Try.prog fn false true false false W args (.bool true) W' := by
  have hW' := hW
  obtain ⟨p, q, hA, hV, rfl, _, _⟩ := hW
  rw [hv] at hV
  obtain ⟨rfl, rfl⟩ := trodVars_none hV
  obtain ⟨e1, e2, e3⟩ := hs ds (trodAll_length hA).2
  refine ⟨ds, [], p ++ [], [], p, [], hW', ?_, ?_, ?_, hb.frame _, fun h => by cases h⟩
  · rw [List.append_nil, e1, hrt]
    exact trodAll_mk1 (shut_bool hbt true)
  · rw [List.append_nil, e2]
    exact trodAll_below Try.laidOut hb hread hA
  · rw [List.append_nil, e3, hv]
    rfl

theorem add_none {a : Addr} {w : World} {v : Value} (h : w.cell? (a.add 0) = some v) : ∃ b o, a = ⟨b, o, none⟩ ∧ ∀ j, a.add j = ⟨b, o + j, none⟩ := by
  obtain ⟨b, o, s⟩ := a
  have hs : s = none := by simpa [Addr.add] using World.cell?_spot h
  subst hs
  refine ⟨b, o, rfl, fun j => ?_⟩
  unfold Addr.add
  split <;> simp_all

/-- An argument that is a slice of numbers. -/
theorem open_row {H : Type} {enc : TypeId × Value → H} {P : Program} {W : World} {base : Nat} {t e : TypeId} {k : IntKind} {v : Value} {d : DataW H} {p : List MemPlace} (ht : P.underlying t = some (.slice e)) (he : P.underlying e = some (.int k)) (hc : P.cellsOf e = 1)
    (hv : Value.okWide P W .any base t v) (h : DataW.Trod enc P W 0 (fun _ => true) true t v d p) :
    ∃ A n c xs, v = .slice A n c ∧ (A = none → c = 0) ∧ Row W k A n xs ∧ (∀ x ∈ xs, (Lit.int k x).wf = true) ∧ n ≤ maxLen := by
  obtain ⟨A, n, c, rfl⟩ := okWide_slice ht hv
  obtain ⟨fuel, hf⟩ := h
  rcases open_ints ht he hc hf with ⟨hcs, _⟩ | ⟨a, l, c', zs, hcs, _, hl, hm, hz, _, hcell, hwz⟩
  · simp [Value.cells] at hcs
    obtain ⟨rfl, rfl, rfl⟩ := hcs
    exact ⟨none, 0, 0, [], rfl, fun _ => rfl, Row.empty _ _ _, (fun x hx => by cases hx), by omega⟩
  · simp [Value.cells] at hcs
    obtain ⟨rfl, rfl, rfl⟩ := hcs
    have hz' : zs.length = c := by simpa using hz
    refine ⟨some a, n, c, zs.take n, rfl, (fun e => by cases e), ⟨by simp; omega, fun j hj => ?_⟩, fun x hx => hwz x (List.mem_of_mem_take hx), by omega⟩
    have h1 := hcell j (by omega)
    obtain ⟨b, o, rfl, e2⟩ := add_none (hcell 0 (by omega))
    rw [e2] at h1
    refine ⟨b, o, rfl, World.block_lt_of_cell? W _ h1, ?_⟩
    rw [h1]
    simp [List.getD, hj]

/-- .. with its room. -/
theorem open_rowc {H : Type} {enc : TypeId × Value → H} {P : Program} {W : World} {base : Nat} {t e : TypeId} {k : IntKind} {v : Value} {d : DataW H} {p : List MemPlace} (ht : P.underlying t = some (.slice e)) (he : P.underlying e = some (.int k)) (hc : P.cellsOf e = 1)
    (hv : Value.okWide P W .any base t v) (h : DataW.Trod enc P W 0 (fun _ => true) true t v d p) :
    ∃ A n c xs, v = .slice A n c ∧ (A = none → c = 0) ∧ Row W k A n xs ∧ (∀ x ∈ xs, (Lit.int k x).wf = true) ∧ n ≤ maxLen ∧ n ≤ c := by
  obtain ⟨A, n, c, rfl⟩ := okWide_slice ht hv
  obtain ⟨fuel, hf⟩ := h
  rcases open_ints ht he hc hf with ⟨hcs, _⟩ | ⟨a, l, c', zs, hcs, _, hl, hm, hz, _, hcell, hwz⟩
  · simp [Value.cells] at hcs
    obtain ⟨rfl, rfl, rfl⟩ := hcs
    exact ⟨none, 0, 0, [], rfl, fun _ => rfl, Row.empty _ _ _, (fun x hx => by cases hx), by omega, by omega⟩
  · simp [Value.cells] at hcs
    obtain ⟨rfl, rfl, rfl⟩ := hcs
    have hz' : zs.length = c := by simpa using hz
    refine ⟨some a, n, c, zs.take n, rfl, (fun e => by cases e), ⟨by simp; omega, fun j hj => ?_⟩, fun x hx => hwz x (List.mem_of_mem_take hx), by omega, hl⟩
    have h1 := hcell j (by omega)
    obtain ⟨b, o, rfl, e2⟩ := add_none (hcell 0 (by omega))
    rw [e2] at h1
    refine ⟨b, o, rfl, World.block_lt_of_cell? W _ h1, ?_⟩
    rw [h1]
    simp [List.getD, hj]

/-- A slice of numbers at its cell's reading: a field of an argument. -/
theorem open_cell {H : Type} {enc : TypeId × Value → H} {P : Program} {W : World} {t e : TypeId} {k : IntKind} {fuel : Nat} {v : Value} {x : DataW H × List MemPlace} (ht : P.underlying t = some (.slice e)) (he : P.underlying e = some (.int k)) (hc : P.cellsOf e = 1)
    (h : DataW.trod enc P W 0 (fun _ => true) true fuel t [v] = some x) :
    ∃ A n c xs, v = .slice A n c ∧ (A = none → c = 0) ∧ Row W k A n xs ∧ (∀ x ∈ xs, (Lit.int k x).wf = true) ∧ n ≤ c ∧ n ≤ maxLen := by
  rcases open_ints ht he hc h with ⟨hcs, rfl⟩ | ⟨a, l, c', zs, hcs, _, hl, hm, hz, rfl, hcell, hwz⟩
  · simp only [List.cons.injEq, and_true] at hcs
    subst hcs
    exact ⟨none, 0, 0, [], rfl, fun _ => rfl, Row.empty _ _ _, (fun x hx => by cases hx), by omega, by omega⟩
  · simp only [List.cons.injEq, and_true] at hcs
    subst hcs
    have hz' : zs.length = c' := by simpa using hz
    refine ⟨some a, l, c', zs.take l, rfl, (fun e => by cases e), ⟨by simp; omega, fun j hj => ?_⟩, fun x hx => hwz x (List.mem_of_mem_take hx), hl, by omega⟩
    have h1 := hcell j (by omega)
    obtain ⟨b, o, rfl, e2⟩ := add_none (hcell 0 (by omega))
    rw [e2] at h1
    refine ⟨b, o, rfl, World.block_lt_of_cell? W _ h1, ?_⟩
    rw [h1]
    simp [List.getD, hj]

/-- An argument that is a slice of structs whose fields are one cell each. -/
theorem open_recs {H : Type} {enc : TypeId × Value → H} {P : Program} {W : World} {base : Nat} {t e : TypeId} {fs : Array Field} {v : Value} {d : DataW H} {p : List MemPlace} (ht : P.underlying t = some (.slice e)) (he : P.underlying e = some (.struct fs))
    (hone : Go.Deep.oneCellFields P fs = true) (hC : P.cellsOf e = fs.size)
    (hv : Value.okWide P W .any base t v) (h : DataW.Trod enc P W 0 (fun _ => true) true t v d p) :
    ∃ A n c, v = .slice A n c ∧ (A = none → c = 0) ∧ n ≤ maxLen ∧ ∀ i, i < n → ∀ (j : Nat) (f : Field), fs[j]? = some f →
      ∃ b o u y m, A = some ⟨b, o, none⟩ ∧ b < W.heap.size ∧ W.cell? ⟨b, o + (i * fs.size + j), none⟩ = some u ∧ DataW.trod enc P W 0 (fun _ => true) true m f.type [u] = some y := by
  obtain ⟨A, n, c, rfl⟩ := okWide_slice ht hv
  obtain ⟨fuel, hf⟩ := h
  rcases Go.Deep.open_slice ht hf with ⟨hcs, _⟩ | ⟨a, l, c', m', n', D, Pl, hcs, _, hl, hm, hmm, _, hi⟩
  · simp [Value.cells] at hcs
    obtain ⟨rfl, rfl, rfl⟩ := hcs
    exact ⟨none, 0, 0, rfl, fun _ => rfl, by omega, fun i hi => by omega⟩
  · simp [Value.cells] at hcs
    obtain ⟨rfl, rfl, rfl⟩ := hcs
    refine ⟨some a, n, c, rfl, (fun e => by cases e), by omega, fun i hin j f hj => ?_⟩
    have hm' : m' = c := by simpa using hmm
    obtain ⟨cs', hc, ht'⟩ := hi i (by omega)
    rw [hC] at hc
    obtain ⟨ys, k, _, _, _, hyl, hg⟩ := DataW.trod_struct he ht'
    obtain ⟨_, hcl, hat⟩ := World.cells?_some hc
    obtain ⟨ho, hk⟩ := Go.Deep.hone_of hone j f hj
    have hjl : j < fs.size := (Array.getElem?_eq_some_iff.1 hj).1
    have h1 := hg j f hj
    rw [ho, hk] at h1
    have h2 : (cs'.drop j).take 1 = [cs'[j]'(by omega)] := by rw [List.drop_eq_getElem_cons (by omega)]; rfl
    rw [h2] at h1
    have h3 := hat j hjl
    rw [List.getElem?_eq_getElem (by omega : j < cs'.length), Go.Deep.add_add] at h3
    have h30 : ∃ u, W.cell? (a.add 0) = some u := by
      obtain ⟨cs0, hc0, _⟩ := hi 0 (by omega)
      rw [hC] at hc0
      obtain ⟨_, hcl0, hat0⟩ := World.cells?_some hc0
      have := hat0 0 (by omega)
      rw [List.getElem?_eq_getElem (by omega : 0 < cs0.length), Go.Deep.add_add, Nat.zero_mul] at this
      exact ⟨_, this⟩
    obtain ⟨u0, h30⟩ := h30
    obtain ⟨b, o, rfl, e2⟩ := add_none h30
    rw [e2] at h3
    exact ⟨b, o, _, ys[j]'(by omega), k, rfl, World.block_lt_of_cell? W _ h3, h3, by rw [h1, List.getElem?_eq_getElem]⟩

theorem byte_wf {xs : List Int} (h : ∀ x ∈ xs, (Lit.int .u8 x).wf = true) : ∀ j, 0 ≤ xs.getD j 0 ∧ xs.getD j 0 < 256 := by
  intro j
  have := range_u8 h j
  simp only [List.getD]
  omega

end Go.Proofs.Ythfifpapkknodaa

/- Arguments of laws: from well formed numbers to bounds; a length modulo k. -/
namespace Go.Proofs.Ythfifpapkknodaa
open Go.ChangeShapes Go.WideShapes Go.ChangeAt Go.RowKit

theorem range_bytes {xs : List Int} (h : ∀ x ∈ xs, (Lit.int .u8 x).wf = true) : ∀ x ∈ xs, 0 ≤ x ∧ x < 256 := fun x hx => by
  have := bounds_u8 (h x hx)
  omega
theorem u64_mod (n : Int) (k : Int) (hk : 0 < k) : ∃ r : Nat, (r : Int) < k ∧ (IntKind.u64.wrap n).tmod k = (r : Int) := by
  have h0 : 0 ≤ IntKind.u64.wrap n := by rw [IntKind.wrap_u64]; omega
  generalize IntKind.u64.wrap n = y at *
  rw [Int.tmod_eq_emod_of_nonneg h0]
  have h1 := Int.emod_nonneg y (show k ≠ 0 by omega)
  have h2 := Int.emod_lt_of_pos y hk
  exact ⟨(y % k).toNat, by omega, by omega⟩

theorem range_ints32 {xs : List Int} (h : ∀ x ∈ xs, (Lit.int .i32 x).wf = true) : ∀ x ∈ xs, -2147483648 ≤ x ∧ x < 2147483648 := fun x hx => by
  have := bounds_i32 (h x hx)
  omega
end Go.Proofs.Ythfifpapkknodaa

/- What a program that does nothing does not answer. -/
namespace Go.Proofs.Ythfifpapkknodaa
open Go.RowKit
set_option maxRecDepth 100000

attribute [local go_sem ↓] Go.wp_at_zero Go.wp_at_succ

/-- A constant's bytes. -/
theorem laidP (w : World) (e : TypeId) (fz : Nat × Nat) (xs : List Int) : Row (w.alloc (.cells (ivs .u8 xs).toArray e fz)) .u8 (some ⟨w.heap.size, 0, none⟩) xs.length xs :=
  ⟨rfl, fun j hj => ⟨w.heap.size, 0, rfl, by simp, by
    rw [Nat.zero_add, World.cell?_alloc_mark, List.getElem?_toArray, ivs_get (by simpa using hj)]⟩⟩
def oneP : List Int := [80, 53, 32, 49, 32, 49, 32, 50, 53, 53, 32, 120]
theorem pnm_one : pnmP oneP = some (1, 1, 1, 1, 11) := by
  have h := say_pnm (s := 53) (g := [32]) (da := [49]) (db := [49]) (px := [120]) (a := 1) (b := 1) (.inl rfl) ⟨[32], [], by decide, by decide, by decide, .inl rfl⟩ (by decide) (by decide) (by decide) rfl (by decide) (by decide) (by decide) rfl
  exact h


end Go.Proofs.Ythfifpapkknodaa

/- What the laws of image ask of the code: that packing and unpacking are two functions of bytes (ip, iu) which go together as the document says; awake. -/
namespace Go.Proofs.Ythfifpapkknodaa
open Go.RowKit
set_option maxRecDepth 100000

attribute [local go_sem ↓] Go.wp_at_zero Go.wp_at_succ

/-- How many rows are told. -/
def hgt : Option (Nat × Nat × Nat × Nat × Nat) → Nat
  | none => 0
  | some r => r.2.1
/-- Bytes, and a file that may be packed. -/
def ImIn (bs : List Int) : Prop := (∀ x ∈ bs, 0 ≤ x ∧ x < 256) ∧ bs.length ≤ 1048576 ∧ (picP bs).isSome = true

/-- The code's two calls: what is packed is ip, what is unpacked is iu. -/
structure ImageOK (ip : List Int → List Int) (iu : List Int → Int → Int × List Int) : Prop where
  pack : ∀ (A : Option Addr) (n c : Nat) (bs : List Int) (w : World), Row w .u8 A n bs → (∀ x ∈ bs, 0 ≤ x ∧ x < 256) → n ≤ 1048576 → n ≤ c → (picP bs).isSome = true →
    Calls Try.prog 8 #[.slice A n c] w fun e w' => ∃ u, e = .returned (.tuple #[u, .bool true]) ∧ NewRow w w' 5 .u8 u (ip bs)
  refuse : ∀ (A : Option Addr) (n c : Nat) (bs : List Int) (w : World), Row w .u8 A n bs → (∀ x ∈ bs, 0 ≤ x ∧ x < 256) → n ≤ 1048576 → n ≤ c → (picP bs).isSome = false →
    Calls Try.prog 8 #[.slice A n c] w fun e w' => e = .returned (.tuple #[.slice none 0 0, .bool false]) ∧ Fresh w w'
  unpack : ∀ (A : Option Addr) (n c : Nat) (xs : List Int) (most : Int) (w : World), Row w .u8 A n xs → (∀ x ∈ xs, 0 ≤ x ∧ x < 256) → n ≤ 16777216 → n ≤ c →
    Calls Try.prog 11 #[.slice A n c, .int .i64 most] w fun e w' => ∃ u, e = .returned (.tuple #[u, .int .i64 (iu xs most).1]) ∧ NewRow w w' 5 .u8 u (iu xs most).2
  byte : ∀ bs, ImIn bs → ∀ x ∈ ip bs, 0 ≤ x ∧ x < 256
  len : ∀ bs, ImIn bs → 0 < (ip bs).length ∧ (ip bs).length ≤ bs.length + hgt (picP bs) + 64
  back : ∀ bs (most : Int), ImIn bs → iu (ip bs) most = if (bs.length : Int) ≤ most then (0, bs) else (5, [])
  total : ∀ xs (most : Int), (∀ x ∈ xs, 0 ≤ x ∧ x < 256) → xs.length ≤ 16777216 →
    ((iu xs most).1 = 0 ∧ (∀ x ∈ (iu xs most).2, 0 ≤ x ∧ x < 256) ∧ ((iu xs most).2.length : Int) ≤ max most 0 ∧ (iu xs most).2.length ≤ 1048576) ∨ ((iu xs most).2 = [] ∧ ((iu xs most).1 = 3 ∨ (iu xs most).1 = 4 ∨ (iu xs most).1 = 5))

theorem bmpP_high {l : List Int} {r : Nat × Nat × Nat × Nat × Nat} (h : bmpP l = some r) : r.2.1 ≤ 32768 := by
  unfold bmpP at h
  split at h
  · unfold bmpR at h
    split at h
    · rename_i hf
      injection h with h
      subst h
      have := hf.2.2.2.1
      simp only []
      omega
    · cases h
  · cases h
theorem pnmP_high {l : List Int} {r : Nat × Nat × Nat × Nat × Nat} (h : pnmP l = some r) : r.2.1 ≤ 32768 := by
  unfold pnmP at h
  split at h
  · split at h
    · cases h
    · split at h
      · unfold pnmR at h
        split at h
        · rename_i hf
          injection h with h
          subst h
          have := hf.2.2.2.1
          simp only []
          omega
        · cases h
      · cases h
  · cases h
theorem picP_high {l : List Int} {r : Nat × Nat × Nat × Nat × Nat} (h : picP l = some r) : r.2.1 ≤ 32768 := by
  unfold picP at h
  split at h
  · exact bmpP_high h
  · exact pnmP_high h
theorem hgt_le (l : List Int) : hgt (picP l) ≤ 32768 := by
  cases h : picP l with
  | none => exact Nat.zero_le _
  | some r => exact picP_high h
theorem ImageOK.lenl {ip : List Int → List Int} {iu : List Int → Int → Int × List Int} (h : ImageOK ip iu) (bs : List Int) (hb : ImIn bs) : 0 < (ip bs).length ∧ (ip bs).length ≤ 16777216 := by
  have h1 := h.len bs hb
  have h2 := hgt_le bs
  have h3 := hb.2.1
  omega
theorem pic_one : picP oneP = some (1, 1, 1, 1, 11) := by
  have h : bmpP oneP = none := if_neg fun h => absurd h.1.1 (by decide)
  unfold picP
  rw [h]
  exact pnm_one

set_option maxHeartbeats 1600000 in
theorem awakeI_any {ip : List Int → List Int} {iu : List Int → Int → Int × List Int} (hc : ImageOK ip iu) (w : World) : Calls Try.prog 6 #[] w fun e w' => e = .returned (.bool true) ∧ Fresh w w' := by
  have hin : ImIn oneP := ⟨by decide, by decide, by rw [pic_one]; rfl⟩
  have HL := Lib.hid (hc.len _ hin).1
  have hcv := Lib.run_convert_bytes_const (P := Try.prog) w 22 5 (ivs .u8 oneP).toArray 12 12 Try.underlying22 Try.underlying5
  have hrow := laidP w 5 ((ivs .u8 oneP).toArray.size, (ivs .u8 oneP).toArray.size + 1) oneP
  have hk : Fresh w (w.alloc (.cells (ivs .u8 oneP).toArray 5 ((ivs .u8 oneP).toArray.size, (ivs .u8 oneP).toArray.size + 1))) := (Kept.refl _ _).alloc _
  generalize w.alloc (.cells (ivs .u8 oneP).toArray 5 ((ivs .u8 oneP).toArray.size, (ivs .u8 oneP).toArray.size + 1)) = W1 at *
  have HP := Lib.hid (hc.pack (some ⟨w.heap.size, 0, none⟩) 12 12 oneP _ hrow hin.1 (by omega) (by omega) hin.2.2)
  have HK := Lib.hid hk
  simp only [ivs, oneP, List.map_cons, List.map_nil] at hcv
  clear hc hin hrow hk
  go_enter Try.func6, Try.ntmps6
  go_wp2_with fail
  refine HP.out.mono ?_
  rintro e w2 ⟨v, rfl, hv, _, hf2⟩
  obtain ⟨Av, cv, rfl, hrv, _⟩ := hv.row
  have hlen := HL.out
  have H2 := Lib.hid (HK.out.trans hf2 (fun _ _ h => h))
  clear hv hrv hf2 HP hcv
  generalize (ip oneP).length = lv at *
  have hlen2 : (0 : Int) < (lv : Int) := by omega
  go_wp2_with fail
  go_ret
  exact ⟨rfl, H2.out⟩

end Go.Proofs.Ythfifpapkknodaa
