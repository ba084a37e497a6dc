/- Texts of this proof, one behind the other: CodN, StrE, HelpStr. -/
import Derived.Test.YtpknbfkknnaajaaDoorPart18
import Derived.Lib.SliceRun
import Derived.Test.YtpknbfkknnaajaaDoorPart19
import Derived.Deep.RegionHeld3
import Derived.Test.YtpknbfkknnaajaaDoorPart2
import Derived.Laws.BytesArg
import Derived.Lib.Bytes

/- The contracts of slices.Clone and coder.NewDecoder. -/
namespace Go.Proofs.YtpknbfkknnaajaaDoor
set_option maxRecDepth 100000
open Go.RowKit

set_option maxHeartbeats 800000 in
theorem clone_any (b o n c : Nat) (xs : List Int) (w : World) (h : Row w .u8 (some ⟨b, o, none⟩) n xs) (hn : n ≤ 1000000000) :
    Calls Tryd.prog 68 #[.slice (some ⟨b, o, none⟩) n c] w fun e w' => ∃ v, e = .returned v ∧ NewRow w w' 5 .u8 v xs := by
  obtain ⟨i0, hi, hz0, hz1, hz2⟩ := info_parts Tryd.infoByteC
  have heq : ∀ W, (binOp .eql 22 (.slice (some ⟨b, o, none⟩) n c) (.slice none 0 0)).run Tryd.prog W = .ok (.bool false) W := fun W => Lib.run_eql_slice_nil W 22 5 (some ⟨b, o, none⟩) n c 0 0 Tryd.underlying22
  go_enter Tryd.func68, Tryd.ntmps68
  have hown : Own (w.alloc (.cells #[] 5)) 5 .u8 (.slice (some ⟨w.heap.size, 0, none⟩) 0 0) [] := ⟨rfl, .inr ⟨w.heap.size, 0, #[], rfl, Nat.zero_le _, heap_alloc_new w _, Nat.le_refl _, Nat.zero_le _, rfl, rfl⟩⟩
  have hr := h.kept ((Kept.refl (fun _ => False) w).alloc (.cells #[] 5)) (fun _ _ _ _ => id)
  have HO := Lib.hid hown
  have HR := Lib.hid hr
  clear hown hr h
  go_wp2_with (at_builtin; refine wpList_app _ rfl _ _ 22 rfl 5 i0 .u8 1 Tryd.underlying22 hi hz0 hz1 hz2 _ [] rfl HO.out (some ⟨b, o, none⟩) n c xs rfl HR.out (by unfold maxLen; simp; omega) (by simp; omega) ?_)
  intro v' w1 hown1 hg hat
  go_wp2_with fail
  go_ret
  refine ⟨v', rfl, by simpa using hown1, fun k hk => ?_, ?_⟩
  · rcases hat with e | e
    · rw [e] at hk
      have : w.heap.size = k := by simpa [Value.ownBlock] using hk
      omega
    · rw [e] at hk
      injection hk with hk
      have : (w.alloc (.cells #[] 5)).heap.size = w.heap.size + 1 := by simp
      omega
  · refine ((Kept.refl _ _).alloc _).grown hg fun k e hlt => ?_
    have : w.heap.size = k := by simpa [Value.ownBlock] using e
    omega

/-- The code behind the first j bytes. -/
def partN (bs : List Int) : Nat → Nat
  | 0 => 0
  | j + 1 => pushN bs (partN bs j) j
theorem part_four {bs : List Int} (hb : ∀ x ∈ bs, 0 ≤ x ∧ x < 256) : partN bs 4 = win bs 0 := by
  have h0 := byte_getD hb 0
  have h1 := byte_getD hb 1
  have h2 := byte_getD hb 2
  have h3 := byte_getD hb 3
  simp only [partN, pushN, win, Nat.zero_add]
  omega

/-- What NewDecoder leaves. -/
def NewDec (w w' : World) (e : Ending) (t : TypeId) (cs : Option Addr → Nat → Array Value) (bs : List Int) : Prop :=
  ∃ g A c, e = .returned (.pointer (some ⟨g, 0, none⟩)) ∧ Dec w' g t (cs A c) A bs ∧ w.heap.size ≤ g ∧ (∀ b o, A = some ⟨b, o, none⟩ → w.heap.size ≤ b) ∧ Fresh w w'

set_option maxHeartbeats 1600000 in
theorem newDec_any (b o n c : Nat) (xs : List Int) (w : World) (h : Row w .u8 (some ⟨b, o, none⟩) n xs) (hn : n ≤ 1000000000) (hby : ∀ x ∈ xs, 0 ≤ x ∧ x < 256) :
    Calls Tryd.prog 56 #[.slice (some ⟨b, o, none⟩) n c] w fun e w' => NewDec w w' e 88 (fun A c => cC 0 4294967295 A xs.length c (win xs 0) 0) xs := by
  have hlen := h.len
  have Hlen := Lib.hid hlen
  clear hlen
  go_enter Tryd.func56, Tryd.ntmps56
  go_wp2_with fail
  refine (clone_any b o n c xs _ h hn).mono ?_
  rintro e w1 ⟨v, rfl, ho, hvb, hf⟩
  obtain ⟨A, cA, rfl, hr, hA⟩ := ho.row
  have hAb : ∀ b o, A = some ⟨b, o, none⟩ → w.heap.size ≤ b ∧ b < w1.heap.size := fun b o e => ⟨hvb b (hA b o e), ho.lt (hA b o e)⟩
  have hd : DecC (w1.alloc (.cells #[.int .u32 0, .int .u32 0, .slice A xs.length cA, .int .u32 0, .int .i64 0] 88)) w1.heap.size 0 4294967295 A cA xs 0 0 :=
    ⟨Blk.new _ _ _, hr.kept ((Kept.refl (fun _ => False) _).alloc _) (fun _ _ _ _ => id), fun b o e _ => by have := hAb b o e; omega, hby, by have := Hlen.out; omega⟩
  have hk : Fresh w (w1.alloc (.cells #[.int .u32 0, .int .u32 0, .slice A xs.length cA, .int .u32 0, .int .i64 0] 88)) := hf.alloc _
  have hg : w.heap.size ≤ w1.heap.size := hf.size
  have H1 := Lib.hid (And.intro hd (And.intro hk (And.intro hAb hg)))
  clear hd hk hAb hg hf ho hr hA hvb
  go_wp2_with fail
  generalize w1.alloc (.cells #[.int .u32 0, .int .u32 0, .slice A xs.length cA, .int .u32 0, .int .i64 0] 88) = w2 at *
  generalize w1.heap.size = g at *
  go_loopw [9] (fun i wr => ∃ j : Nat, j ≤ 4 ∧ i = .int .i64 j ∧ DecC wr g 0 4294967295 A cA xs (partN xs j) 0 ∧ Fresh w wr) (fun i _ => (4 - intOf i).toNat)
  case atStart => exact ⟨0, by omega, rfl, H1.out.1, H1.out.2.1⟩
  case round =>
    obtain ⟨j, hj, rfl, hd, hf⟩ := hrel
    have HF := Lib.hid hf
    clear hf
    by_cases hlt : j < 4
    · go_wp2_with fail
      refine (push_any g 0 4294967295 A cA xs _ 0 j _ _ hd rfl).mono ?_
      rintro e3 w3 ⟨rfl, hd3, hk3⟩
      have hf3 : Fresh w w3 := HF.out.trans hk3 fun i hi e => by have := H1.out.2.2.2; omega
      have H3 := Lib.hid (And.intro hd3 hf3)
      clear hd3 hf3 hk3 hd
      go_wp2_with fail
      go_roundw
      case rel => exact ⟨j + 1, by omega, by go_num, H3.out.1, H3.out.2⟩
      case measure => simp [intOf]; omega
    · obtain rfl : j = 4 := by omega
      have HD := Lib.hid hd
      clear hd
      go_wp2_with fail
      go_ret
      refine ⟨g, A, cA, rfl, ?_, H1.out.2.2.2, fun b o e => (H1.out.2.2.1 b o e).1, HF.out⟩
      rw [← part_four hby]
      exact HD.out

end Go.Proofs.YtpknbfkknnaajaaDoor

/- The code's unpacker: decoder, encoder and model side by side; take, newUnpacker. -/
namespace Go.Proofs.YtpknbfkknnaajaaDoor
set_option maxRecDepth 100000
open Go.RowKit

attribute [local go_sem ↓] Go.wp_at_zero Go.wp_at_succ

/-- The decoder's blocks. -/
def DBl (gd : Nat) (B : Option Addr) (bs : List Int) (k : Nat) : Prop := k = gd ∨ (0 < bs.length ∧ ∃ o, B = some ⟨k, o, none⟩)

/-- The code's decoder, and its packer at the bits L; what lies in A is none of theirs. -/
structure UpA (A : Nat → Prop) (wr : World) (gd ge gm lv : Nat) (v : Value) (B : Option Addr) (c : Nat) (bs : List Int) (s : DS) (L : List Bool) : Prop where
  pk : PkA (fun k => A k ∨ DBl gd B bs k) wr ge gm lv v L L
  dec : DecC wr gd s.l s.h B c bs (win bs s.p) s.p
  enc : s.Enc lv
  far : ∀ k, A k → ¬ DBl gd B bs k
  kin : A 0

section
variable {A A' S : Nat → Prop} {wr w' : World} {gd ge gm lv c : Nat} {v : Value} {B : Option Addr} {bs : List Int} {s : DS} {L : List Bool}
theorem UpA.decK (h : UpA A wr gd ge gm lv v B c bs s L) (hk : Kept (fun k => ¬ (A k ∨ DBl gd B bs k)) wr w') : DecC w' gd s.l s.h B c bs (win bs s.p) s.p :=
  h.dec.kept hk (fun e => e (.inr (.inl rfl))) (fun _ o e h0 e2 => e2 (.inr (.inr ⟨h0, o, e⟩)))
theorem UpA.kept (h : UpA A wr gd ge gm lv v B c bs s L) (hk : Kept S wr w') (hS : ∀ k, S k → A k ∧ k ≠ 0 ∧ ¬ DBl gd B bs k) : UpA A w' gd ge gm lv v B c bs s L :=
  ⟨h.pk.kept hk (fun k e => ⟨.inl (hS k e).1, (hS k e).2.1⟩), h.dec.kept hk (fun e => (hS _ e).2.2 (.inl rfl)) (fun _ o e h0 e2 => (hS _ e2).2.2 (.inr ⟨h0, o, e⟩)), h.enc, h.far, h.kin⟩
theorem UpA.fresh (h : UpA A wr gd ge gm lv v B c bs s L) (hk : Fresh wr w') : UpA A w' gd ge gm lv v B c bs s L := h.kept hk (fun _ h => h.elim)
theorem UpA.move (h : UpA A wr gd ge gm lv v B c bs s L) (hk : Fresh wr w') (hA : ∀ k, A' k → k < w'.heap.size ∧ (A k ∨ wr.heap.size ≤ k)) (h0 : A' 0) : UpA A' w' gd ge gm lv v B c bs s L := by
  have hg := h.dec.blk.lt
  have hs := hk.size
  refine ⟨h.pk.move hk (fun k e => e.elim (fun e => ⟨(hA k e).1, (hA k e).2.elim (fun e => .inl (.inl e)) .inr⟩) (fun e => ⟨Nat.lt_of_lt_of_le (h.pk.far k (.inr e)).1 hs, .inl (.inr e)⟩)) (.inl h0), h.dec.fresh hk, h.enc, fun k e e2 => ?_, h0⟩
  rcases (hA k e).2 with h4 | h4
  · exact h.far k h4 e2
  · have := (h.pk.far k (.inr e2)).1; omega

theorem UpA.ask (h : UpA A wr gd ge gm lv v B c bs s L) : Calls Tryd.prog 58 #[.pointer (some ⟨gm, 0, none⟩)] wr fun e w' => e = .returned (.int .i64 (kS lv L : Nat)) ∧ UpA A w' gd ge gm lv v B c bs s L ∧ Kept (fun k => ¬ A k) wr w' := by
  refine h.pk.ask.mono ?_
  rintro e w' ⟨rfl, hp, hk⟩
  exact ⟨rfl, ⟨hp, h.decK hk, h.enc, h.far, h.kin⟩, hk.mono fun k _ e e2 => e (.inl e2)⟩
theorem UpA.read (h : UpA A wr gd ge gm lv v B c bs s L) (hl : s.L.length ≤ 100000000) : Calls Tryd.prog 57 #[.pointer (some ⟨gd, 0, none⟩), .int .i64 (kS lv s.L : Nat)] wr fun e w' => e = .returned (.int .i64 (bitN (s.one lv bs))) ∧ UpA A w' gd ge gm lv v B c bs (s.step lv bs) L ∧ Kept (fun k => ¬ A k) wr w' := by
  have hlen := encSc_len lv s.L
  have hp := h.enc.p
  have hD := decode_any gd _ _ B c bs s.p (kS lv s.L : Nat) (s.one lv bs) wr h.dec h.enc.range (by omega) (by rw [cc_kSc]; rfl)
  rw [cc_kSc] at hD
  refine hD.mono ?_
  rintro e w' ⟨rfl, hd, hk⟩
  refine ⟨rfl, ⟨h.pk.kept hk (fun k e => ⟨.inr (.inl e), fun e2 => ?_⟩), ?_, h.enc.step bs, h.far, h.kin⟩, hk.mono fun k _ e e2 => h.far k e2 (.inl e)⟩
  · have e' : k = gd := e
    exact h.far _ h.kin (.inl (e2 ▸ e'))
  · rw [DS.step, DS.by_l, DS.by_h, DS.by_p]
    exact hd
theorem UpA.bit (h : UpA A wr gd ge gm lv v B c bs s L) (b : Int) (hl : L.length ≤ 99999999) : Calls Tryd.prog 36 #[.agg #[.pointer (some ⟨ge, 0, none⟩), .pointer (some ⟨gm, 0, none⟩)], .int .i64 b] wr fun e w' => e = .returned (.tuple #[]) ∧ ∃ v', UpA A w' gd ge gm lv v' B c bs s (L ++ [b != 0]) ∧ Kept (fun k => ¬ A k) wr w' := by
  refine (cBit_any _ ge gm lv v L b wr h.pk hl).mono ?_
  rintro e w' ⟨rfl, v', hp, hk⟩
  exact ⟨rfl, v', ⟨hp, h.decK hk, h.enc, h.far, h.kin⟩, hk.mono fun k _ e e2 => e (.inl e2)⟩
theorem UpA.past (h : UpA A wr gd ge gm lv v B c bs s L) (hl : s.L.length ≤ 100000000) : Calls Tryd.prog 30 #[.pointer (some ⟨gd, 0, none⟩)] wr fun e w' => e = .returned (.int .i64 (pastN bs s.p)) ∧ ∃ n, w' = wr.drewN n := by
  have hlen := encSc_len lv s.L
  have hp := h.enc.p
  exact past_any gd _ _ B c bs _ s.p wr h.dec (by omega)
end

set_option maxHeartbeats 1600000 in
/-- take: one byte is taken out. -/
theorem cTake_any (A : Nat → Prop) (gd ge gm lv c : Nat) (v : Value) (B : Option Addr) (bs : List Int) (t : Nat) (w : World) (h : UpA A w gd ge gm lv v B c bs (decT lv bs t) (decT lv bs t).L) (hA : ∀ k, A k → k < w.heap.size) (hl : t ≤ 99999900) :
    Calls Tryd.prog 29 #[.agg #[.pointer (some ⟨gd, 0, none⟩), .pointer (some ⟨ge, 0, none⟩), .pointer (some ⟨gm, 0, none⟩)]] w fun e w' => e = .returned (.int .u8 (ofB 0 (moreB lv bs t 8) : Nat)) ∧ ∃ v', UpA A w' gd ge gm lv v' B c bs (decT lv bs (t + 8)) (decT lv bs (t + 8)).L ∧ Kept (fun k => ¬ A k) w w' := by
  have hbx := Blk.new w 54 #[.pointer (some ⟨gd, 0, none⟩), .pointer (some ⟨ge, 0, none⟩), .pointer (some ⟨gm, 0, none⟩)]
  have hfa : Fresh w (w.alloc (.cells #[.pointer (some ⟨gd, 0, none⟩), .pointer (some ⟨ge, 0, none⟩), .pointer (some ⟨gm, 0, none⟩)] 54)) := (Kept.refl _ _).alloc _
  have hsz : (w.alloc (.cells #[.pointer (some ⟨gd, 0, none⟩), .pointer (some ⟨ge, 0, none⟩), .pointer (some ⟨gm, 0, none⟩)] 54)).heap.size = w.heap.size + 1 := alloc_size _ _
  have h1 : UpA (fun k => A k ∨ k = w.heap.size) (w.alloc (.cells #[.pointer (some ⟨gd, 0, none⟩), .pointer (some ⟨ge, 0, none⟩), .pointer (some ⟨gm, 0, none⟩)] 54)) gd ge gm lv v B c bs (decT lv bs t) (decT lv bs t).L :=
    h.move hfa (fun k e => e.elim (fun e => ⟨by have := hA k e; omega, .inl e⟩) (fun e => ⟨by omega, .inr (by omega)⟩)) (.inl h.kin)
  have hF : Kept (fun k => ¬ A k) w (w.alloc (.cells #[.pointer (some ⟨gd, 0, none⟩), .pointer (some ⟨ge, 0, none⟩), .pointer (some ⟨gm, 0, none⟩)] 54)) := (Kept.refl _ _).alloc _
  have H1 := Lib.hid (And.intro h1 (And.intro hbx (And.intro hF (And.intro h.kin (And.intro hA h.pk.far)))))
  clear h1 hbx hfa hF h hsz hA
  go_enter Tryd.func29, Tryd.ntmps29
  go_wp2_with fail
  generalize (w.alloc (.cells #[.pointer (some ⟨gd, 0, none⟩), .pointer (some ⟨ge, 0, none⟩), .pointer (some ⟨gm, 0, none⟩)] 54)) = w1 at *
  generalize hb0 : w.heap.size = b0 at *
  go_loopw [5, 3] (fun i x wr => ∃ (k : Nat) (v : Value), k ≤ 8 ∧ i = .int .i64 (k : Nat) ∧ x = .int .i64 (ofB 0 (moreB lv bs t k) : Nat) ∧ UpA (fun k => A k ∨ k = b0) wr gd ge gm lv v B c bs (decT lv bs (t + k)) (decT lv bs (t + k)).L ∧ Kept (fun k => ¬ A k) w wr ∧ Blk wr b0 54 #[.pointer (some ⟨gd, 0, none⟩), .pointer (some ⟨ge, 0, none⟩), .pointer (some ⟨gm, 0, none⟩)]) (fun i _ _ => (8 - intOf i).toNat)
  case atStart => exact ⟨0, v, by omega, rfl, by rw [moreB_zero]; rfl, H1.out.1, H1.out.2.2.1, H1.out.2.1⟩
  case round =>
    obtain ⟨k, u, hk8, rfl, rfl, hp, hF, hbx⟩ := hrel
    have hlt7 : ofB 0 (moreB lv bs t k) < 256 := ofB_byte (by rw [moreB_len]; omega)
    have c0 := hbx.cell 0
    have c1 := hbx.cell 1
    have c2 := hbx.cell 2
    simp only [List.getElem?_toArray, List.getElem?_cons_zero, List.getElem?_cons_succ] at c0 c1 c2
    by_cases hlt : k < 8
    · have k0 : (k : Int) < 8 := by omega
      have hsl : (decT lv bs (t + k)).L.length ≤ 99999999 := by rw [decT_len]; omega
      have hst : decT lv bs (t + (k + 1)) = (decT lv bs (t + k)).step lv bs := by rw [← Nat.add_assoc, decT_succ]
      have hmo := moreB_succ lv bs t k
      obtain ⟨one, hone⟩ : ∃ one, (decT lv bs (t + k)).one lv bs = one := ⟨_, rfl⟩
      have hL : (decT lv bs (t + k)).L ++ [bitN one != 0] = ((decT lv bs (t + k)).step lv bs).L := by
        rw [DS.step, DS.by_L, hone]
        cases one <;> rfl
      rw [hone] at hmo
      have hor := or_bit (a := ofB 0 (moreB lv bs t k)) hlt7 one
      rw [← ofB_snoc, ← hmo] at hor
      have hsn : ofB 0 (moreB lv bs t (k + 1)) < 256 := ofB_byte (by rw [moreB_len]; omega)
      have hb0s : b0 < wr.heap.size := hbx.lt
      have HA : Hid (∀ V, Fresh wr V → Calls Tryd.prog 58 #[.pointer (some ⟨gm, 0, none⟩)] V fun e w' => e = .returned (.int .i64 (kS lv (decT lv bs (t + k)).L : Nat)) ∧ UpA (fun k => A k ∨ k = b0) w' gd ge gm lv u B c bs (decT lv bs (t + k)) (decT lv bs (t + k)).L ∧ Kept (fun k => ¬ (A k ∨ k = b0)) V w') := Lib.hid fun V hk => (hp.fresh hk).ask
      have HD : Hid (∀ V, UpA (fun k => A k ∨ k = b0) V gd ge gm lv u B c bs (decT lv bs (t + k)) (decT lv bs (t + k)).L → Calls Tryd.prog 57 #[.pointer (some ⟨gd, 0, none⟩), .int .i64 (kS lv (decT lv bs (t + k)).L : Nat)] V fun e w' => e = .returned (.int .i64 (bitN one)) ∧ UpA (fun k => A k ∨ k = b0) w' gd ge gm lv u B c bs ((decT lv bs (t + k)).step lv bs) (decT lv bs (t + k)).L ∧ Kept (fun k => ¬ (A k ∨ k = b0)) V w') := Lib.hid fun V h => by
        have := h.read (by omega)
        rw [hone] at this
        exact this
      have HG := Lib.hid (And.intro hst (And.intro hL hsl))
      have hsl' := hsl
      have HX := Lib.hid (And.intro hbx hF)
      have HC := Lib.hid (And.intro c0 (And.intro c1 c2))
      generalize hSS : decT lv bs (t + k) = S at *
      generalize hkk : kS lv S.L = kk at *
      have hb : (bitN one = 0 ∨ bitN one = 1) := by cases one <;> simp [bitN]
      generalize hbb : bitN one = bn at *
      generalize hac : ofB 0 (moreB lv bs t k) = ac at *
      generalize han : ofB 0 (moreB lv bs t (k + 1)) = an at *
      have ha0 : (0 : Int) ≤ (ac : Int) := by omega
      have ha1 : (ac : Int) < 256 := by omega
      clear hp hF hbx hst hL hsl hmo hone
      have HS := Lib.hid hsl'
      clear hsl'
      go_wp2_with fail
      go_region_held3 (fun w' => w'.cell? ⟨b0, 0, none⟩ = some (.pointer (some ⟨gd, 0, none⟩)) ∧ w'.cell? ⟨b0, 1, none⟩ = some (.pointer (some ⟨ge, 0, none⟩)) ∧ w'.cell? ⟨b0, 2, none⟩ = some (.pointer (some ⟨gm, 0, none⟩)))
        (first | go_keep | exact H6 | exact H7)
        (first
          | (go_at_call 58; refine (HA.out _ (by first | exact Kept.refl _ _ | exact (Kept.refl _ _).drew)).mono ?_; rintro e5 w6 ⟨rfl, hp6, hk6⟩; have H6 := (And.intro ((hk6.cell (p := ⟨b0, 0, none⟩) hb0s (fun e => e (.inr rfl))).trans HC.out.1) (And.intro ((hk6.cell (p := ⟨b0, 1, none⟩) hb0s (fun e => e (.inr rfl))).trans HC.out.2.1) ((hk6.cell (p := ⟨b0, 2, none⟩) hb0s (fun e => e (.inr rfl))).trans HC.out.2.2))); have hb6 := Nat.lt_of_lt_of_le hb0s hk6.size)
          | (go_at_call 57; refine (HD.out _ hp6).mono ?_; rintro e7 w7 ⟨rfl, hp7, hk7⟩; have H7 := (And.intro ((hk7.cell (p := ⟨b0, 0, none⟩) hb6 (fun e => e (.inr rfl))).trans H6.1) (And.intro ((hk7.cell (p := ⟨b0, 1, none⟩) hb6 (fun e => e (.inr rfl))).trans H6.2.1) ((hk7.cell (p := ⟨b0, 2, none⟩) hb6 (fun e => e (.inr rfl))).trans H6.2.2)))))
      obtain ⟨m0, m1, m2⟩ := H7
      have HB : Hid (Calls Tryd.prog 36 #[.agg #[.pointer (some ⟨ge, 0, none⟩), .pointer (some ⟨gm, 0, none⟩)], .int .i64 bn] w7 fun e w' => e = .returned (.tuple #[]) ∧ ∃ v', UpA (fun k => A k ∨ k = b0) w' gd ge gm lv v' B c bs (decT lv bs (t + (k + 1))) (decT lv bs (t + (k + 1))).L ∧ Kept (fun k => ¬ (A k ∨ k = b0)) w7 w') := by
        have := hp7.bit bn HS.out
        rw [HG.out.2.1, ← HG.out.1] at this
        exact Lib.hid this
      have hb7 := Nat.lt_of_lt_of_le hb6 hk7.size
      have HF7 := Lib.hid (((HX.out.2.drew.trans hk6 (fun k hk e e2 => e (.inl e2))).trans hk7 (fun k hk e e2 => e (.inl e2))))
      have HB7 := Lib.hid ((HX.out.1.drew.kept hk6 (fun e => e (.inr rfl))).kept hk7 (fun e => e (.inr rfl)))
      clear hp6 hp7 hk6 hk7 H6 HC HA HD HX c0 c1 c2
      go_wp2_with fail
      refine HB.out.mono ?_
      rintro e8 w8 ⟨rfl, v8, hp8, hk8⟩
      have H8 := Lib.hid (And.intro hp8 (And.intro (HF7.out.trans hk8 (fun k hk e e2 => e (.inl e2))) (HB7.out.kept hk8 (fun e => e (.inr rfl)))))
      clear hp8 hk8 HB HF7 HB7 m0 m1 m2
      go_wp2_with fail
      go_roundw
      case rel => exact ⟨k + 1, _, by omega, by go_num, by rw [han], H8.out.1, H8.out.2.1, H8.out.2.2⟩
      case measure => simp [intOf]; omega
    · obtain rfl : k = 8 := by omega
      have k0 : ¬ ((8 : Nat) : Int) < 8 := by omega
      have HP := Lib.hid (And.intro (hp.move (A' := A) (Kept.refl _ _) (fun k e => ⟨by have := H1.out.2.2.2.2.1 k e; have := hF.size; omega, .inl (.inl e)⟩) H1.out.2.2.2.1) hF)
      have e8 : (((ofB 0 (moreB lv bs t 8) : Nat) : Int) % 256) = ((ofB 0 (moreB lv bs t 8) : Nat) : Int) := by omega
      generalize hac : ofB 0 (moreB lv bs t 8) = ac at *
      clear hp hF hbx c0 c1 c2
      go_wp2_with fail
      refine bodyPost_ret (results_tmp rfl _ _ _) rfl ?_
      exact ⟨rfl, ⟨_, HP.out.1⟩, HP.out.2⟩

set_option maxHeartbeats 800000 in
/-- A new unpacker. -/
theorem cNewUnpacker_any (b o n c : Nat) (xs : List Int) (lv : Nat) (w : World) (hk : Kin w) (hl : lv ≤ 2) (hr : Row w .u8 (some ⟨b, o, none⟩) n xs) (hn : n ≤ 1000000000) (hby : ∀ x ∈ xs, 0 ≤ x ∧ x < 256) :
    Calls Tryd.prog 28 #[.slice (some ⟨b, o, none⟩) n c, .int .i64 lv] w fun e w' => ∃ gd ge gm B cB, e = .returned (.agg #[.pointer (some ⟨gd, 0, none⟩), .pointer (some ⟨ge, 0, none⟩), .pointer (some ⟨gm, 0, none⟩)]) ∧ UpA (fun k => k < w.heap.size) w' gd ge gm lv (.slice none 0 0) B cB xs (decT lv xs 0) (decT lv xs 0).L ∧ Fresh w w' := by
  have HK := Lib.hid hk
  have HR := Lib.hid hr
  clear hk hr
  go_enter Tryd.func28, Tryd.ntmps28
  go_wp2_with fail
  have hlen := HR.out.len
  have hf0 : Fresh w (w.alloc (.cells #[.pointer none, .pointer none, .pointer none] 54)) := (Kept.refl _ _).alloc _
  have hc0 : Blk (w.alloc (.cells #[.pointer none, .pointer none, .pointer none] 54)) w.heap.size 54 #[.pointer none, .pointer none, .pointer none] := Blk.new _ _ _
  refine (newDec_any b o n c xs _ (HR.out.kept hf0 (fun _ _ _ _ => id)) hn hby).mono ?_
  rintro e w1 ⟨gd, B, cB, rfl, hd, hgd, hB, hf1⟩
  have hs0 : w.heap.size + 1 = (w.alloc (.cells #[.pointer none, .pointer none, .pointer none] 54)).heap.size := (alloc_size _ _).symm
  have hf01 := hf0.trans hf1 (fun _ _ h => h)
  have hc1 := hc0.kept hf1 id
  have HN := Lib.hid (cNewPacker_any lv w1 (HK.out.kept hf01 id) hl)
  have H1 := Lib.hid (And.intro hd (And.intro (hs0 ▸ hgd : w.heap.size + 1 ≤ gd) (And.intro (fun b o e => (hs0 ▸ hB b o e : w.heap.size + 1 ≤ b)) (And.intro hf01 hc1))))
  clear hd hgd hB hf1 hf01 hc1 hf0 hc0 hs0
  go_wp2_with fail
  refine HN.out.mono ?_
  rintro e w2 ⟨ge, gm, rfl, hp, hf2⟩
  have hb2 := H1.out.2.2.2.2.kept hf2 id
  have d0 := hb2.cell 0
  have d1 := hb2.cell 1
  have d2 := hb2.cell 2
  have f0 := hb2.frozen 0
  have f1 := hb2.frozen 1
  have f2 := hb2.frozen 2
  have HP := Lib.hid (And.intro hp hf2)
  clear hp hf2 HN
  go_wp2_with fail
  have hks : Kept (fun k => k = w.heap.size) w2 (((w2.setCell ⟨w.heap.size, 0, none⟩ (.pointer (some ⟨gd, 0, none⟩))).setCell ⟨w.heap.size, 1, none⟩ (.pointer (some ⟨ge, 0, none⟩))).setCell ⟨w.heap.size, 2, none⟩ (.pointer (some ⟨gm, 0, none⟩))) := (((Kept.refl (fun k => k = w.heap.size) w2).setCell (p := ⟨w.heap.size, 0, none⟩) (fun _ => rfl) _).setCell (p := ⟨w.heap.size, 1, none⟩) (fun _ => rfl) _).setCell (p := ⟨w.heap.size, 2, none⟩) (fun _ => rfl) _
  obtain ⟨hd, hgd, hB, hf01, hc1⟩ := H1.out
  obtain ⟨hp, hf2⟩ := HP.out
  have hlt1 := hc1.lt
  have hpos := HK.out.pos
  have hgd2 := hd.blk.lt
  have hs1 := hf01.size
  have hs2 := hf2.size
  have hp3 := hp.kept hks (fun k e => ⟨by have e' : k = w.heap.size := e; omega, fun e2 => by have e' : k = w.heap.size := e; omega⟩)
  have hf02 := hf01.trans hf2 (fun _ _ h => h)
  have hf3 := hf02.trans hks (fun k hk e => by have e' : k = w.heap.size := e; omega)
  have hb3 := ((hb2.set_ 0 (.pointer (some ⟨gd, 0, none⟩))).set_ 1 (.pointer (some ⟨ge, 0, none⟩))).set_ 2 (.pointer (some ⟨gm, 0, none⟩))
  have hne : w.heap.size ≠ gd := by omega
  have hneB : ∀ o, 0 < xs.length → B ≠ some ⟨w.heap.size, o, none⟩ := fun o _ e => by
    have := hB _ _ e
    omega
  have hd3 := (hd.kept hf2 id (fun _ _ _ _ => id)).kept hks (fun e => hne e.symm) (fun b o e h0 e2 => hneB o h0 (by rw [e]; have e' : b = w.heap.size := e2; rw [e']))
  generalize (((w2.setCell ⟨w.heap.size, 0, none⟩ (.pointer (some ⟨gd, 0, none⟩))).setCell ⟨w.heap.size, 1, none⟩ (.pointer (some ⟨ge, 0, none⟩))).setCell ⟨w.heap.size, 2, none⟩ (.pointer (some ⟨gm, 0, none⟩))) = w3 at *
  have d3 := hb3.cell 0
  have d4 := hb3.cell 1
  have d5 := hb3.cell 2
  simp at d3 d4 d5
  have hs3 := hks.size
  have hup : UpA (fun k => k < w.heap.size) w3 gd ge gm lv (.slice none 0 0) B cB xs (decT lv xs 0) (decT lv xs 0).L := by
    rw [decT]
    refine ⟨hp3.move (Kept.refl _ _) (fun k e => ?_) (.inl hpos), hd3, ⟨by rw [encS_nil], by rw [encS_nil], by rw [encS_nil]; rfl⟩, fun k e e2 => by
      have e' : k < w.heap.size := e
      rcases e2 with e2 | ⟨_, o, e2⟩
      · omega
      · have := hB _ _ e2
        omega, hpos⟩
    rcases e with e | e | ⟨h0, o, e⟩
    · have e' : k < w.heap.size := e
      exact ⟨by omega, .inl (by omega)⟩
    · exact ⟨by omega, .inl (by omega)⟩
    · obtain ⟨b', o', e', hb', _⟩ := hd.row.at_ 0 h0
      rw [e] at e'
      injection e' with e'
      injection e' with e1 e2
      subst e1
      exact ⟨by omega, .inl (by omega)⟩
  refine bodyPost_ret (v := .agg #[.pointer (some ⟨gd, 0, none⟩), .pointer (some ⟨ge, 0, none⟩), .pointer (some ⟨gm, 0, none⟩)]) (by simp [results, Tryd.results28, go_sem, d3, d4, d5]) rfl ⟨gd, ge, gm, B, cB, rfl, hup, hf3⟩

end Go.Proofs.YtpknbfkknnaajaaDoor

/- The contract of valisehelp.Bytes: two texts of bytes are alike just if their bytes are. -/
namespace Go.Proofs.YtpknbfkknnaajaaDoor
open Go.RowKit

theorem row_string {w : World} {A : Option Addr} {n : Nat} {xs : List Int} (h : Row w .u8 A n xs) (c : Nat) :
    (convert 22 9 (.slice A n c)).run Tryd.prog w = .ok (.string (strOfNums xs)) w := by
  rcases Nat.eq_zero_or_pos n with h0 | h0
  · subst h0
    have hx : xs = [] := List.eq_nil_of_length_eq_zero h.len
    subst hx
    rw [run_convert_bytes_string w 22 9 5 A 0 c Tryd.underlying22 Tryd.underlying5 Tryd.underlying9]
    cases A <;> simp [Conv.bytesToString, loadCells]
    all_goals rfl
  · obtain ⟨b, o, rfl, _, _⟩ := h.at_ 0 h0
    refine run_convert_bytes_arg w 22 5 Tryd.underlying22 Tryd.underlying5 b o n c xs h.len (fun i hi => ?_) 9 Tryd.underlying9
    obtain ⟨b', o', e, _, hc⟩ := h.at_ i hi
    injection e with e
    injection e with e1 e2
    subst e1; subst e2
    exact hc

theorem strOfNums_inj {xs ys : List Int} (hx : ∀ c ∈ xs, 0 ≤ c ∧ c < 256) (hy : ∀ c ∈ ys, 0 ≤ c ∧ c < 256) (h : (strOfNums xs).toList = (strOfNums ys).toList) : xs = ys := by
  have e : xs.map (fun n => UInt8.ofNat n.toNat) = ys.map (fun n => UInt8.ofNat n.toNat) := by
    rw [Lib.strOfNums_toList, Lib.strOfNums_toList] at h; exact h
  have back : ∀ l : List Int, (∀ c ∈ l, 0 ≤ c ∧ c < 256) → (l.map (fun n => UInt8.ofNat n.toNat)).map (fun u => (u.toNat : Int)) = l := by
    intro l hl
    rw [List.map_map]
    conv => rhs; rw [← List.map_id l]
    apply List.map_congr_left
    intro x hx
    have := hl x hx
    simp only [Function.comp, UInt8.toNat_ofNat', id]
    omega
  rw [← back xs hx, ← back ys hy, e]

theorem str_dec {xs ys : List Int} (hx : ∀ c ∈ xs, 0 ≤ c ∧ c < 256) (hy : ∀ c ∈ ys, 0 ≤ c ∧ c < 256) : ((strOfNums xs).toList == (strOfNums ys).toList) = decide (xs = ys) := by
  by_cases h : xs = ys
  · subst h; simp
  · rw [decide_eq_false h]
    rw [beq_eq_false_iff_ne]
    exact fun e => h (strOfNums_inj hx hy e)

set_option maxHeartbeats 400000 in
theorem hBytes_any (A B : Option Addr) (n m c d : Nat) (xs ys : List Int) (w : World) (ha : Row w .u8 A n xs) (hb : Row w .u8 B m ys) (hx : ∀ c ∈ xs, 0 ≤ c ∧ c < 256) (hy : ∀ c ∈ ys, 0 ≤ c ∧ c < 256) :
    Calls Tryd.prog 12 #[.slice A n c, .slice B m d] w fun e w' => e = .returned (.bool (decide (xs = ys))) ∧ w = w' := by
  have h1 := row_string ha c
  have h2 := row_string hb d
  have hd := str_dec hx hy
  have Hd := Lib.hid hd
  clear ha hb hx hy hd
  go_enter Tryd.func12, Tryd.ntmps12
  go_wp2
  go_ret
  exact ⟨ret_bool (by rw [← Hd.out]), rfl⟩

end Go.Proofs.YtpknbfkknnaajaaDoor
