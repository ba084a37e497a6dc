/- Texts of this proof, one behind the other: StrC, CodD. -/
import Derived.Test.YtpknbfkknnaajaaDoorPart9
import Derived.Test.YtpknbfkknnaajaaDoorPart10
import Derived.Test.YtpknbfkknnaajaaDoorPart17
import Derived.Deep.RegionHeld3

/- The code's packer: encoder and model side by side, and none of the blocks in A is theirs; bit, put, newPacker. -/
namespace Go.Proofs.YtpknbfkknnaajaaDoor
set_option maxRecDepth 100000
open Go.RowKit

attribute [local go_sem ↓] Go.wp_at_zero Go.wp_at_succ

theorem kSc_int (lv : Nat) (L : List Bool) : ((kS lv L : Nat) : Int) = (mos lv L mo0).chance lv := (mo_chance_nat (mos_fine lv L mo0_fine) lv).1
theorem cc_kSc (lv : Nat) (L : List Bool) : cc ((kS lv L : Nat) : Int) = kS lv L := by
  have := kS_bd lv L
  unfold cc; omega
theorem encSc_len (lv : Nat) (L : List Bool) : (encS lv L).1.length ≤ 4 * L.length := by
  have h := encAll_len (pairs lv L mo0) 0 4294967295 open_full (pairs_bd lv L mo0_fine)
  rw [pairs_len] at h
  exact h

/-- The code's encoder and model, each at its bits; what lies in A is none of theirs. -/
structure PkA (A : Nat → Prop) (wr : World) (ge gm lv : Nat) (v : Value) (Le Lm : List Bool) : Prop where
  enc : EncC wr ge (encS lv Le).2.1 (encS lv Le).2.2 v (encS lv Le).1
  mdl : ∃ F, Mdl F wr gm lv (mos lv Lm mo0) ∧ ¬ F ge ∧ (∀ k, v.ownBlock = some k → ¬ F k) ∧ (∀ k, F k → k < wr.heap.size ∧ ¬ A k)
  far : ∀ k, A k → k < wr.heap.size ∧ k ≠ ge ∧ v.ownBlock ≠ some k
  kin : A 0

section
variable {A A' S : Nat → Prop} {wr w' : World} {ge gm lv : Nat} {v : Value} {L Le Lm : List Bool}
theorem PkA.kept (h : PkA A wr ge gm lv v Le Lm) (hk : Kept S wr w') (hS : ∀ k, S k → A k ∧ k ≠ 0) : PkA A w' ge gm lv v Le Lm := by
  obtain ⟨F, hm, h1, h2, h3⟩ := h.mdl
  refine ⟨h.enc.kept hk (fun e => (h.far _ (hS _ e).1).2.1 rfl) (fun k e e2 => (h.far _ (hS _ e2).1).2.2 e), ⟨F, hm.kept hk (fun e => (hS _ e).2 rfl) (fun k e e2 => (h3 k e).2 (hS _ e2).1), h1, h2, fun k e => ⟨Nat.lt_of_lt_of_le (h3 k e).1 hk.size, (h3 k e).2⟩⟩, fun k e => ⟨Nat.lt_of_lt_of_le (h.far k e).1 hk.size, (h.far k e).2⟩, h.kin⟩
/-- Other blocks that are none of theirs. -/
theorem PkA.move (h : PkA A wr ge gm lv v Le Lm) (hk : Fresh wr w') (hA : ∀ k, A' k → k < w'.heap.size ∧ (A k ∨ wr.heap.size ≤ k)) (h0 : A' 0) : PkA A' w' ge gm lv v Le Lm := by
  obtain ⟨F, hm, h1, h2, h3⟩ := h.mdl
  have he := h.enc.blk.lt
  refine ⟨h.enc.kept hk id (fun _ _ => id), ⟨F, hm.fresh hk, h1, h2, fun k e => ⟨Nat.lt_of_lt_of_le (h3 k e).1 hk.size, fun e2 => ?_⟩⟩, fun k e => ⟨(hA k e).1, ?_, fun e2 => ?_⟩, h0⟩
  · rcases (hA k e2).2 with h | h4
    · exact (h3 k e).2 h
    · have := (h3 k e).1; omega
  · rcases (hA k e).2 with h4 | h4
    · exact (h.far k h4).2.1
    · omega
  · rcases (hA k e).2 with h4 | h4
    · exact (h.far k h4).2.2 e2
    · have := h.enc.own.lt e2; omega
theorem PkA.fresh (h : PkA A wr ge gm lv v Le Lm) (hk : Fresh wr w') : PkA A w' ge gm lv v Le Lm := h.kept hk (fun _ h => h.elim)

theorem PkA.ask (h : PkA A wr ge gm lv v Le Lm) : Calls Tryd.prog 58 #[.pointer (some ⟨gm, 0, none⟩)] wr fun e w' => e = .returned (.int .i64 (kS lv Lm : Nat)) ∧ PkA A w' ge gm lv v Le Lm ∧ Kept (fun k => ¬ A k) wr w' := by
  obtain ⟨F, hm, h1, h2, h3⟩ := h.mdl
  refine (mChance_any F gm lv _ wr hm).mono ?_
  rintro e w' ⟨rfl, hm, hk⟩
  refine ⟨?_, ⟨h.enc.kept hk h1 h2, ⟨F, hm, h1, h2, fun k e => ⟨Nat.lt_of_lt_of_le (h3 k e).1 hk.size, (h3 k e).2⟩⟩, fun k e => ⟨Nat.lt_of_lt_of_le (h.far k e).1 hk.size, (h.far k e).2⟩, h.kin⟩, hk.mono fun k _ e => (h3 k e).2⟩
  rw [← kSc_int]
theorem PkA.teach (h : PkA A wr ge gm lv v Le Lm) (b : Int) : Calls Tryd.prog 63 #[.pointer (some ⟨gm, 0, none⟩), .int .i64 b] wr fun e w' => e = .returned (.tuple #[]) ∧ PkA A w' ge gm lv v Le (Lm ++ [b != 0]) ∧ Kept (fun k => ¬ A k) wr w' := by
  obtain ⟨F, hm, h1, h2, h3⟩ := h.mdl
  refine (mdLearn_any F gm lv _ b wr hm).mono ?_
  rintro e w' ⟨rfl, hm, hk⟩
  rw [← mos_snoc] at hm
  exact ⟨rfl, ⟨h.enc.kept hk h1 h2, ⟨F, hm, h1, h2, fun k e => ⟨Nat.lt_of_lt_of_le (h3 k e).1 hk.size, (h3 k e).2⟩⟩, fun k e => ⟨Nat.lt_of_lt_of_le (h.far k e).1 hk.size, (h.far k e).2⟩, h.kin⟩, hk.mono fun k _ e => (h3 k e).2⟩
theorem PkA.code (h : PkA A wr ge gm lv v L Lm) (b : Int) (hl : L.length ≤ 100000000) : Calls Tryd.prog 62 #[.pointer (some ⟨ge, 0, none⟩), .int .i64 b, .int .i64 (kS lv L : Nat)] wr fun e w' => e = .returned (.tuple #[]) ∧ ∃ v', PkA A w' ge gm lv v' (L ++ [b != 0]) Lm ∧ Kept (fun k => ¬ A k) wr w' := by
  obtain ⟨F, hm, h1, h2, h3⟩ := h.mdl
  have hlen := encSc_len lv L
  have hE := encode_any ge _ _ v _ b (kS lv L : Nat) wr h.enc (encS_open lv L) (by omega)
  have hs := encS_snoc lv L (b != 0)
  rw [cc_kSc] at hE
  refine hE.mono ?_
  rintro e w' ⟨rfl, v', he, hv, hk⟩
  have hA : ∀ k, EFoot ge v k → ¬ A k := fun k e e2 => e.elim (fun e => (h.far k e2).2.1 e) (fun e => (h.far k e2).2.2 e)
  refine ⟨rfl, v', ⟨by rw [hs]; exact he, ⟨F, hm.kept hk (fun e => hA _ e h.kin) (fun k e e2 => e2.elim (fun e2 => h1 (e2 ▸ e)) (fun e2 => h2 k e2 e)), h1, fun k e e2 => (hv k e).elim (fun e => h2 k e e2) (fun e => by have := (h3 k e2).1; omega), fun k e => ⟨Nat.lt_of_lt_of_le (h3 k e).1 hk.size, (h3 k e).2⟩⟩, fun k e => ⟨Nat.lt_of_lt_of_le (h.far k e).1 hk.size, (h.far k e).2.1, fun e2 => (hv k e2).elim (h.far k e).2.2 (fun e2 => by have := (h.far k e).1; omega)⟩, h.kin⟩, hk.mono fun k _ e => hA k e⟩
theorem PkA.flush (h : PkA A wr ge gm lv v L Lm) (hl : L.length ≤ 100000000) : Calls Tryd.prog 20 #[.pointer (some ⟨ge, 0, none⟩)] wr fun e w' => ∃ u, e = .returned u ∧ Own w' 5 .u8 u (packB lv L) ∧ (∀ k, A k → u.ownBlock ≠ some k) ∧ Kept (fun k => ¬ A k) wr w' := by
  have hlen := encSc_len lv L
  refine (flush_any ge _ _ v _ wr h.enc (encS_open lv L) (by omega)).mono ?_
  rintro e w' ⟨u, rfl, ho, hv, _, hk⟩
  refine ⟨u, rfl, ho, fun k e e2 => ?_, hk.mono fun k _ e e2 => e.elim (fun e => (h.far k e2).2.1 e) (fun e => (h.far k e2).2.2 e)⟩
  rcases hv k e2 with e3 | e3
  · exact (h.far k e).2.2 e3
  · have := (h.far k e).1; omega
end

theorem intBit (b : Int) : (b != 0) = (b != 0) := rfl

set_option maxHeartbeats 1600000 in
/-- bit: one bit is packed. -/
theorem cBit_any (A : Nat → Prop) (ge gm lv : Nat) (v : Value) (L : List Bool) (b : Int) (w : World) (h : PkA A w ge gm lv v L L) (hl : L.length ≤ 99999999) :
    Calls Tryd.prog 36 #[.agg #[.pointer (some ⟨ge, 0, none⟩), .pointer (some ⟨gm, 0, none⟩)], .int .i64 b] w fun e w' => e = .returned (.tuple #[]) ∧ ∃ v', PkA A w' ge gm lv v' (L ++ [b != 0]) (L ++ [b != 0]) ∧ Kept (fun k => ¬ A k) w w' := by
  have hbx := Blk.new w 41 #[.pointer (some ⟨ge, 0, none⟩), .pointer (some ⟨gm, 0, none⟩)]
  have hfa : Fresh w (w.alloc (.cells #[.pointer (some ⟨ge, 0, none⟩), .pointer (some ⟨gm, 0, none⟩)] 41)) := (Kept.refl _ _).alloc _
  have hsz : (w.alloc (.cells #[.pointer (some ⟨ge, 0, none⟩), .pointer (some ⟨gm, 0, none⟩)] 41)).heap.size = w.heap.size + 1 := alloc_size _ _
  have h1 : PkA (fun k => A k ∨ k = w.heap.size) (w.alloc (.cells #[.pointer (some ⟨ge, 0, none⟩), .pointer (some ⟨gm, 0, none⟩)] 41)) ge gm lv v L L :=
    h.move hfa (fun k e => e.elim (fun e => ⟨by have := (h.far k e).1; omega, .inl e⟩) (fun e => ⟨by omega, .inr (by omega)⟩)) (.inl h.kin)
  have c0 := hbx.cell 0
  have c1 := hbx.cell 1
  simp only [List.getElem?_toArray, List.getElem?_cons_zero, List.getElem?_cons_succ] at c0 c1
  have HA : Hid (∀ V, Fresh (w.alloc (.cells #[.pointer (some ⟨ge, 0, none⟩), .pointer (some ⟨gm, 0, none⟩)] 41)) V → Calls Tryd.prog 58 #[.pointer (some ⟨gm, 0, none⟩)] V fun e w' => e = .returned (.int .i64 (kS lv L : Nat)) ∧ PkA (fun k => A k ∨ k = w.heap.size) w' ge gm lv v L L ∧ Kept (fun k => ¬ (A k ∨ k = w.heap.size)) V w') := Lib.hid fun V hk => (h1.fresh hk).ask
  have HE : Hid (∀ V, PkA (fun k => A k ∨ k = w.heap.size) V ge gm lv v L L → Calls Tryd.prog 62 #[.pointer (some ⟨ge, 0, none⟩), .int .i64 b, .int .i64 (kS lv L : Nat)] V fun e w' => e = .returned (.tuple #[]) ∧ ∃ v', PkA (fun k => A k ∨ k = w.heap.size) w' ge gm lv v' (L ++ [b != 0]) L ∧ Kept (fun k => ¬ (A k ∨ k = w.heap.size)) V w') := Lib.hid fun V h => h.code b (by omega)
  have HF := Lib.hid (show Kept (fun k => ¬ A k) w (w.alloc (.cells #[.pointer (some ⟨ge, 0, none⟩), .pointer (some ⟨gm, 0, none⟩)] 41)) from (Kept.refl _ _).alloc _)
  have hb1 : w.heap.size < (w.alloc (.cells #[.pointer (some ⟨ge, 0, none⟩), .pointer (some ⟨gm, 0, none⟩)] 41)).heap.size := by omega
  have HL : Hid (∀ k, A k → k ≠ w.heap.size) := Lib.hid fun k e => by have := (h.far k e).1; omega
  have HK : Hid (A 0) := Lib.hid h.kin
  clear h1 hfa hsz h hbx
  go_enter Tryd.func36, Tryd.ntmps36
  go_wp2_with fail
  generalize (w.alloc (.cells #[.pointer (some ⟨ge, 0, none⟩), .pointer (some ⟨gm, 0, none⟩)] 41)) = w1 at *
  generalize w.heap.size = b0 at *
  have HC := Lib.hid (And.intro c0 c1)
  go_region_held3 (fun w' => w'.cell? ⟨b0, 0, none⟩ = some (.pointer (some ⟨ge, 0, none⟩)) ∧ w'.cell? ⟨b0, 1, none⟩ = some (.pointer (some ⟨gm, 0, none⟩)))
    (first | go_keep | exact H6 | exact H7)
    (first
      | (go_at_call 58; refine (HA.out _ (by first | exact Kept.refl _ _ | exact (Kept.refl _ _).drew)).mono ?_; rintro e5 w6 ⟨rfl, hp6, hk6⟩; have H6 := (And.intro ((hk6.cell (p := ⟨b0, 0, none⟩) hb1 (fun e => e (.inr rfl))).trans HC.out.1) ((hk6.cell (p := ⟨b0, 1, none⟩) hb1 (fun e => e (.inr rfl))).trans HC.out.2)); have hb6 := Nat.lt_of_lt_of_le hb1 hk6.size)
      | (go_at_call 62; refine (HE.out _ hp6).mono ?_; rintro e7 w7 ⟨rfl, v7, hp7, hk7⟩; have H7 := (And.intro ((hk7.cell (p := ⟨b0, 0, none⟩) hb6 (fun e => e (.inr rfl))).trans H6.1) ((hk7.cell (p := ⟨b0, 1, none⟩) hb6 (fun e => e (.inr rfl))).trans H6.2))))
  obtain ⟨m0, m1⟩ := H7
  have HT := Lib.hid (hp7.teach b)
  have HF7 := Lib.hid ((HF.out.drew.trans hk6 (fun k hk e e2 => e (.inl e2))).trans hk7 (fun k hk e e2 => e (.inl e2)))
  clear hp6 hp7 hk6 hk7 H6 HC HA HE HF hb1 c0 c1
  go_wp2_with fail
  refine HT.out.mono ?_
  rintro e8 w8 ⟨rfl, hp8, hk8⟩
  have HP8 := Lib.hid (hp8.move (A' := A) (Kept.refl _ _) (fun k e => ⟨(hp8.far k (.inl e)).1, .inl (.inl e)⟩) HK.out)
  have HF8 := Lib.hid (HF7.out.trans hk8 (fun k hk e e2 => e (.inl e2)))
  clear hp8 hk8 HT HF7
  go_wp2_with fail
  go_end0
  exact ⟨rfl, _, HP8.out, HF8.out⟩

set_option maxHeartbeats 800000 in
/-- A new packer. -/
theorem cNewPacker_any (lv : Nat) (w : World) (hk : Kin w) (hl : lv ≤ 2) :
    Calls Tryd.prog 18 #[.int .i64 lv] w fun e w' => ∃ ge gm, e = .returned (.agg #[.pointer (some ⟨ge, 0, none⟩), .pointer (some ⟨gm, 0, none⟩)]) ∧ PkA (fun k => k < w.heap.size) w' ge gm lv (.slice none 0 0) [] [] ∧ Fresh w w' := by
  have hlv : lvl (lv : Int) = lv := by unfold lvl; omega
  have HK := Lib.hid hk
  clear hk
  go_enter Tryd.func18, Tryd.ntmps18
  go_wp2_with fail
  have hf0 : Fresh w (w.alloc (.cells #[.pointer none, .pointer none] 41)) := (Kept.refl _ _).alloc _
  have hc0 : Blk (w.alloc (.cells #[.pointer none, .pointer none] 41)) w.heap.size 41 #[.pointer none, .pointer none] := Blk.new _ _ _
  refine (newEnc_any _).mono ?_
  rintro e w1 ⟨ge, rfl, he, hge, hf1⟩
  have hs0 : w.heap.size ≤ ge := Nat.le_trans hf0.size hge
  have hf01 := hf0.trans hf1 (fun _ _ h => h)
  have HN := Lib.hid (mdNew_any (lv : Int) w1 (HK.out.kept hf01 id))
  have H1 := Lib.hid (And.intro he (And.intro hs0 (And.intro hf01 (hc0.kept hf1 id))))
  clear he hs0 hf01 hge hf1 hf0 hc0
  go_wp2_with fail
  refine HN.out.mono ?_
  rw [hlv]
  rintro e w2 ⟨gm, rfl, hm, hf2⟩
  have hb2 := H1.out.2.2.2.kept hf2 id
  have HP : Hid (PkA (fun k => k < w.heap.size + 1) w2 ge gm lv (.slice none 0 0) [] [] ∧ Fresh w w2) := by
    obtain ⟨he, hs0, hf01, _⟩ := H1.out
    have hlt := he.blk.lt
    have hs1 := hf01.size
    have hs2 := hf2.size
    have hp := HK.out.pos
    have hlt2 := hb2.lt
    refine Lib.hid ⟨⟨he.kept hf2 id (fun _ _ => id), ⟨_, hm, fun e => by omega, fun k (e : none = some k) => (by cases e), fun k e => ⟨e.2, fun (e2 : k < w.heap.size + 1) => by have := H1.out.2.2.2.lt; omega⟩⟩, fun k (e : k < w.heap.size + 1) => ⟨by omega, fun e3 => ?_, fun (e : none = some k) => by cases e⟩, by omega⟩, hf01.trans hf2 (fun _ _ h => h)⟩
    subst e3
    have e4 : k = w.heap.size := by omega
    subst e4
    exact Blk.ne_ he.blk H1.out.2.2.2 (by decide) rfl
  have d0 := hb2.cell 0
  have d1 := hb2.cell 1
  have f0 := hb2.frozen 0
  have f1 := hb2.frozen 1
  clear hm hf2 H1 HN
  go_wp2_with fail
  have hks : Kept (fun k => k = w.heap.size) w2 ((w2.setCell ⟨w.heap.size, 0, none⟩ (.pointer (some ⟨ge, 0, none⟩))).setCell ⟨w.heap.size, 1, none⟩ (.pointer (some ⟨gm, 0, none⟩))) := ((Kept.refl (fun k => k = w.heap.size) w2).setCell (p := ⟨w.heap.size, 0, none⟩) (fun _ => rfl) _).setCell (p := ⟨w.heap.size, 1, none⟩) (fun _ => rfl) _
  have hp3 := HP.out.1.kept hks (fun k e => ⟨by have e' : k = w.heap.size := e; omega, fun e2 => by have := HK.out.pos; have e' : k = w.heap.size := e; omega⟩)
  have hf3 : Fresh w ((w2.setCell ⟨w.heap.size, 0, none⟩ (.pointer (some ⟨ge, 0, none⟩))).setCell ⟨w.heap.size, 1, none⟩ (.pointer (some ⟨gm, 0, none⟩))) := HP.out.2.trans hks (fun k hk e => by have e' : k = w.heap.size := e; omega)
  have hb3 := (hb2.set_ 0 (.pointer (some ⟨ge, 0, none⟩))).set_ 1 (.pointer (some ⟨gm, 0, none⟩))
  generalize ((w2.setCell ⟨w.heap.size, 0, none⟩ (.pointer (some ⟨ge, 0, none⟩))).setCell ⟨w.heap.size, 1, none⟩ (.pointer (some ⟨gm, 0, none⟩))) = w3 at *
  have d2 := hb3.cell 0
  have d3 := hb3.cell 1
  have hp4 := hp3.move (A' := fun k => k < w.heap.size) (Kept.refl _ _) (fun k e => ⟨by have := hf3.size; have e' : k < w.heap.size := e; omega, .inl (by have e' : k < w.heap.size := e; omega)⟩) HK.out.pos
  simp at d2 d3
  refine bodyPost_ret (v := .agg #[.pointer (some ⟨ge, 0, none⟩), .pointer (some ⟨gm, 0, none⟩)]) (by simp [results, Tryd.results18, go_sem, d2, d3]) rfl ⟨ge, gm, rfl, hp4, hf3⟩

end Go.Proofs.YtpknbfkknnaajaaDoor

/- The contracts of coder.Decoder. -/
namespace Go.Proofs.YtpknbfkknnaajaaDoor
set_option maxRecDepth 100000
open Go.RowKit

attribute [local go_sem ↓] Go.wp_at_zero Go.wp_at_succ

/-- A decoder at block g, of type t, with cells cs, over bytes bs that lie at A. -/
structure Dec (w : World) (g : Nat) (t : TypeId) (cs : Array Value) (A : Option Addr) (bs : List Int) : Prop where
  blk : Blk w g t cs
  row : Row w .u8 A bs.length bs
  far : ∀ b o, A = some ⟨b, o, none⟩ → 0 < bs.length → b ≠ g
  byte : ∀ x ∈ bs, 0 ≤ x ∧ x < 256
  small : bs.length ≤ 1000000000

section
variable {w w' : World} {g : Nat} {t : TypeId} {cs : Array Value} {A : Option Addr} {bs : List Int}
theorem Row.setOff {k : IntKind} {n : Nat} {xs : List Int} (h : Row w k A n xs) {q : Addr} (hq : ∀ b o, A = some ⟨b, o, none⟩ → 0 < n → b ≠ q.block) (u : Value) : Row (w.setCell q u) k A n xs :=
  ⟨h.len, fun j hj => by
    obtain ⟨b, o, e, hb, hc⟩ := h.at_ j hj
    refine ⟨b, o, e, by simpa [World.setCell] using hb, ?_⟩
    rw [World.cell?_setCell_other _ _ _ _ (fun e' => hq b o e (by omega) (by rw [e']))]
    exact hc⟩
theorem Dec.drewN (h : Dec w g t cs A bs) (n : Nat) : Dec (w.drewN n) g t cs A bs := ⟨h.blk, h.row.drewN n, h.far, h.byte, h.small⟩
theorem Dec.drew (h : Dec w g t cs A bs) : Dec w.drew g t cs A bs := h.drewN 1
theorem Dec.kept {S : Nat → Prop} (h : Dec w g t cs A bs) (hk : Kept S w w') (hg : ¬ S g) (hA : ∀ b o, A = some ⟨b, o, none⟩ → 0 < bs.length → ¬ S b) : Dec w' g t cs A bs :=
  ⟨h.blk.kept hk hg, h.row.kept hk hA, h.far, h.byte, h.small⟩
theorem Dec.fresh (h : Dec w g t cs A bs) (hf : Kept (fun _ => False) w w') : Dec w' g t cs A bs := h.kept hf id (fun _ _ _ _ => id)
theorem Dec.set_ (h : Dec w g t cs A bs) (i : Nat) (u : Value) : Dec (w.setCell ⟨g, i, none⟩ u) g t (cs.setIfInBounds i u) A bs :=
  ⟨h.blk.set_ i u, h.row.setOff (q := ⟨g, i, none⟩) h.far u, h.far, h.byte, h.small⟩
theorem Dec.num (h : Dec w g t cs A bs) (i : Nat) (k : IntKind) (x : Int) (hc : cs[i]? = some (.int k x)) : numIn w g i = x := by
  unfold numIn; rw [show w.cell? ⟨g, i, none⟩ = some (.int k x) from by rw [h.blk.cell i, hc]]
end

/-- The cells of the code's decoder. -/
def cC (l h : Nat) (A : Option Addr) (n c x p : Nat) : Array Value := #[.int .u32 l, .int .u32 (4294967295 - (h : Int)), .slice A n c, .int .u32 x, .int .i64 p]
abbrev DecC (w : World) (g l h : Nat) (A : Option Addr) (c : Nat) (bs : List Int) (x p : Nat) : Prop := Dec w g 88 (cC l h A bs.length c x p) A bs

theorem Dec.span {w : World} {g l h : Nat} {A : Option Addr} {c : Nat} {bs : List Int} {x p : Nat} (d : DecC w g l h A c bs x p) : Span w g l h :=
  ⟨by simpa [cC] using d.blk.cell 0, by simpa [cC] using d.blk.cell 1, d.blk.frozen 0, d.blk.frozen 1⟩

section
variable {w : World} {g l h : Nat} {A : Option Addr} {c : Nat} {bs : List Int} {x p : Nat}
theorem Dec.setL (d : DecC w g l h A c bs x p) (l' : Nat) : DecC (w.setCell ⟨g, 0, none⟩ (.int .u32 l')) g l' h A c bs x p := d.set_ 0 (.int .u32 l')
theorem Dec.setH (d : DecC w g l h A c bs x p) (h' : Nat) : DecC (w.setCell ⟨g, 1, none⟩ (.int .u32 (4294967295 - (h' : Int)))) g l h' A c bs x p := d.set_ 1 (.int .u32 (4294967295 - (h' : Int)))
theorem Dec.setX (d : DecC w g l h A c bs x p) (x' : Nat) (u : Int) (hu : u = (x' : Int)) : DecC (w.setCell ⟨g, 3, none⟩ (.int .u32 u)) g l h A c bs x' p := by subst hu; exact d.set_ 3 (.int .u32 x')
theorem Dec.setP (d : DecC w g l h A c bs x p) (p' : Nat) (u : Int) (hu : u = (p' : Int)) : DecC (w.setCell ⟨g, 4, none⟩ (.int .i64 u)) g l h A c bs x p' := by subst hu; exact d.set_ 4 (.int .i64 p')
end

theorem join8 (x y : Nat) (hy : y < 256) : bits .or .u32 ((x : Int) * 256 % 4294967296) (y : Int) = ((x * 256 % 4294967296 + y : Nat) : Int) := by
  have e1 : ((x : Int) * 256 % 4294967296) = ((x * 256 % 4294967296 : Nat) : Int) := by omega
  rw [e1, u32_or_nat _ _ (by omega) (by omega), nat_join 8 (x * 256 % 4294967296) y (by omega) (by omega)]

/-- What push makes of the code. -/
def pushN (bs : List Int) (x i : Nat) : Nat := x * 256 % 4294967296 + (bs.getD i 0).toNat

set_option maxHeartbeats 1600000 in
theorem push_any (g l h : Nat) (A : Option Addr) (c : Nat) (bs : List Int) (x p n : Nat) (i : Int) (w : World) (d : DecC w g l h A c bs x p) (hi : i = (n : Int)) :
    Calls Tryd.prog 69 #[.pointer (some ⟨g, 0, none⟩), .int .i64 i] w fun e w' => e = .returned (.tuple #[]) ∧ DecC w' g l h A c bs (pushN bs x n) p ∧ Kept (fun k => k = g) w w' := by
  subst hi
  have c2 : w.cell? ⟨g, 2, none⟩ = some (.slice A bs.length c) := by simpa [cC] using d.blk.cell 2
  have c3 : w.cell? ⟨g, 3, none⟩ = some (.int .u32 x) := by simpa [cC] using d.blk.cell 3
  have f3 := d.blk.frozen 3
  have hsm := d.small
  by_cases hlt : n < bs.length
  · obtain ⟨b, o, rfl, hb, hc⟩ := d.row.at_ n hlt
    have hne := d.far b o rfl (by omega)
    have hby := byte_getD d.byte n
    obtain ⟨y, hy⟩ := Int.eq_ofNat_of_zero_le hby.1
    rw [hy] at hc hby
    have hj := join8 x y (by omega)
    have hP : pushN bs x n = x * 256 % 4294967296 + y := by unfold pushN; rw [hy]; rfl
    rw [hP]
    have hi0 : (0 : Int) ≤ (n : Int) := by omega
    have hi1 : (n : Int) < (bs.length : Int) := by omega
    have HD := Lib.hid d
    have HY := Lib.hid hy
    have hy256 : y < 256 := by omega
    clear hP hy d hby hlt
    go_enter Tryd.func69, Tryd.ntmps69
    go_wp2_with fail
    go_region
    all_goals
      go_end0
      refine ⟨rfl, ?_, (((Kept.one _ _ _ _).trans (Kept.one _ _ _ _) (fun _ _ h => h))).drew⟩
      exact ((HD.out.setX (x * 256 % 4294967296) _ (by omega)).setX (x * 256 % 4294967296 + y) _ (by omega)).drew
  · have hP : pushN bs x n = x * 256 % 4294967296 := by
      unfold pushN
      rw [show bs.getD n 0 = 0 from by simp [List.getD, List.getElem?_eq_none (Nat.le_of_not_lt hlt)]]
      rfl
    rw [hP]
    have hi1 : ¬ (n : Int) < (bs.length : Int) := by omega
    have HD := Lib.hid d
    clear hP d
    go_enter Tryd.func69, Tryd.ntmps69
    go_wp2_with fail
    go_end0
    exact ⟨rfl, HD.out.setX _ _ (by omega), Kept.one _ _ _ _⟩

theorem dShift (g l h : Nat) (A : Option Addr) (c : Nat) (bs : List Int) (x p : Nat) (w : World) (d : DecC w g l h A c bs x p) (o : Rng l h) :
    Calls Tryd.prog 37 #[.pointer (some ⟨g, 0, none⟩)] w fun e w' => e = .returned (.int .u8 ((l / 16777216 : Nat) : Int)) ∧ DecC w' g (shl l) (shh h) A c bs x p ∧ Kept (fun k => k = g) w w' := by
  refine (shift_any g l h w d.span (by have := o.1; have := o.2; omega) o.2).mono ?_
  rintro e' w' ⟨rfl, rfl⟩
  exact ⟨rfl, (d.setL _).setH _, (Kept.one _ _ _ _).trans (Kept.one _ _ _ _) (fun _ _ h => h)⟩

theorem dNarrow (g l h k : Nat) (one : Bool) (A : Option Addr) (c : Nat) (bs : List Int) (x p : Nat) (w : World) (d : DecC w g l h A c bs x p) (o : Open l h) (hk : k ≤ 4095) :
    Calls Tryd.prog 71 #[.pointer (some ⟨g, 0, none⟩), .bool one, .int .u32 (midN l h k)] w fun e w' => e = .returned (.tuple #[]) ∧ DecC w' g (nar one l h k).1 (nar one l h k).2 A c bs x p ∧ Kept (fun k => k = g) w w' := by
  have hm := mid_le o.rng.1 o.hi hk
  have hlt := o.lt
  have hhi := o.hi
  cases one
  · refine (narrow_zero g l h _ w d.span (by omega)).mono ?_
    rintro e' w' ⟨rfl, rfl⟩
    exact ⟨rfl, d.setL _, Kept.one _ _ _ _⟩
  · refine (narrow_one g l h _ w d.span (by omega)).mono ?_
    rintro e' w' ⟨rfl, rfl⟩
    exact ⟨rfl, d.setH _, Kept.one _ _ _ _⟩

/-- What a decoder answers. -/
def bitN (one : Bool) : Int := if one then 1 else 0

set_option maxHeartbeats 1600000 in
/-- Decode: P4.2. -/
theorem decode_any (g l h : Nat) (A : Option Addr) (c : Nat) (bs : List Int) (p : Nat) (ch : Int) (one : Bool) (w : World) (d : DecC w g l h A c bs (win bs p) p) (o : Open l h) (hp : p ≤ 1000000000) (hone : decBit bs l h (cc ch) p = one) :
    Calls Tryd.prog 57 #[.pointer (some ⟨g, 0, none⟩), .int .i64 ch] w fun e w' => e = .returned (.int .i64 (bitN one)) ∧
      DecC w' g (enc1 one l h (cc ch)).2.1 (enc1 one l h (cc ch)).2.2 A c bs (win bs (p + (enc1 one l h (cc ch)).1.length)) (p + (enc1 one l h (cc ch)).1.length) ∧ Kept (fun k => k = g) w w' := by
  obtain ⟨k, hk⟩ : ∃ k, cc ch = k := ⟨_, rfl⟩
  have hk2 := (cc_bd ch).2
  rw [hk] at hk2 hone
  have Hk := Lib.hid hk
  rw [hk]
  clear hk
  obtain ⟨E, hE⟩ : ∃ E, enc1 one l h k = E := ⟨_, rfl⟩
  rw [hE]
  have HE := Lib.hid hE
  clear hE
  unfold decBit at hone
  have c3 : w.cell? ⟨g, 3, none⟩ = some (.int .u32 (win bs p)) := by simpa [cC] using d.blk.cell 3
  have HB := Lib.hid d.byte
  go_enter Tryd.func57, Tryd.ntmps57
  go_wp2_with fail
  refine (mid_any g l h ch _ d.span o).mono ?_
  rw [Hk.out]
  rintro e1 w1 ⟨rfl, n1, rfl⟩
  go_wp2_with fail
  refine (dNarrow g l h k one A c bs _ p _ (d.drewN n1) o hk2).mono ?_
  rintro e2 w2 ⟨rfl, hd2, hk2'⟩
  have hkk : Kept (fun k => k = g) w w2 := ((Kept.refl _ _).drewN n1).trans hk2' fun _ _ h => h
  have hr2 := nar_rng (one := one) o.rng o.lt hk2
  have hE' : norm 5 (nar one l h k).1 (nar one l h k).2 = E := HE.out
  generalize (nar one l h k).1 = l1 at *
  generalize (nar one l h k).2 = h1 at *
  have Hp := Lib.hid (And.intro hd2 (And.intro hkk (Going.start hr2)))
  have HE' := Lib.hid hE'
  clear hE' HE hd2 hk2' hkk hr2 o d Hk hk2 hone c3
  go_wp2_with fail
  go_loopw [29] (fun _ wr => ∃ j out l2 h2, Going l1 h1 j out l2 h2 ∧ DecC wr g l2 h2 A c bs (win bs (p + j)) (p + j) ∧ Kept (fun k => k = g) w wr) (fun _ wr => (numIn wr g 0 + numIn wr g 1).toNat)
  case atStart => exact ⟨0, [], l1, h1, Hp.out.2.2, Hp.out.1, Hp.out.2.1⟩
  case round =>
    obtain ⟨j, out, l2, h2, hgo, hd, hk⟩ := hrel
    have hj4 := hgo.le
    have Hgo := Lib.hid hgo
    have HK := Lib.hid hk
    clear hgo hk
    obtain ⟨P, hP⟩ : ∃ P, p + j = P := ⟨_, rfl⟩
    rw [hP] at hd
    have HP := Lib.hid hP
    have hPb : P ≤ 1000000004 := by omega
    clear hP
    go_wp2_with fail
    refine (settled_any g l2 h2 _ hd.span Hgo.out.rng).mono ?_
    rintro e1 w1 ⟨rfl, n2, rfl⟩
    cases hs : settledB l2 h2
    · have Hs := Lib.hid hs
      clear hs
      have hfin : DecC (wr.drewN n2) g E.2.1 E.2.2 A c bs (win bs (p + E.1.length)) (p + E.1.length) ∧ Kept (fun k => k = g) w (wr.drewN n2) := by
        have hfin := Hgo.out.done Hs.out
        rw [HE'.out] at hfin
        rw [hfin]
        refine ⟨?_, HK.out.drewN n2⟩
        rw [Hgo.out.len, HP.out]
        exact hd.drewN n2
      have HF := Lib.hid hfin
      clear hfin
      cases one
      · go_wp2_with fail
        go_ret
        exact ⟨rfl, HF.out⟩
      · go_wp2_with fail
        go_ret
        exact ⟨rfl, HF.out⟩
    · have Hs := Lib.hid hs
      clear hs
      have hm0 := hd.num 0 .u32 l2 rfl
      have hm1 := hd.num 1 .u32 (4294967295 - (h2 : Int)) rfl
      have HM := Lib.hid (And.intro hm0 hm1)
      clear hm0 hm1
      go_wp2_with fail
      refine (dShift g l2 h2 A c bs _ P _ (hd.drewN n2) Hgo.out.rng).mono ?_
      rintro e3 w3 ⟨rfl, hd3, hk3⟩
      have hk3' : Kept (fun k => k = g) w w3 := (HK.out.drewN n2).trans hk3 fun _ _ h => h
      have HK3 := Lib.hid hk3'
      have c4 : w3.cell? ⟨g, 4, none⟩ = some (.int .i64 P) := by simpa [cC] using hd3.blk.cell 4
      clear hd hk3 hk3'
      go_wp2_with fail
      refine (push_any g _ _ A c bs _ P (4 + P) _ _ hd3 (by omega)).mono ?_
      rintro e4 w4 ⟨rfl, hd4, hk4⟩
      have hk4' : Kept (fun k => k = g) w w4 := HK3.out.trans hk4 fun _ _ h => h
      have HK4 := Lib.hid hk4'
      have c4 : w4.cell? ⟨g, 4, none⟩ = some (.int .i64 P) := by simpa [cC] using hd4.blk.cell 4
      have f4 := hd4.blk.frozen 4
      have hwn : pushN bs (win bs P) (4 + P) = win bs (P + 1) := by rw [win_next HB.out P, show 4 + P = P + 4 from by omega]; rfl
      rw [hwn] at hd4
      have hd5 := hd4.setP (P + 1) ((P : Int) + 1) (by omega)
      have hm0 := hd5.num 0 .u32 (shl l2) rfl
      have hm1 := hd5.num 1 .u32 (4294967295 - (shh h2 : Int)) rfl
      have HM5 := Lib.hid (And.intro hm0 hm1)
      have HD5 := Lib.hid hd5
      obtain ⟨hj3, hnx⟩ := Hgo.out.next Hs.out
      have HN := Lib.hid hnx
      clear hd3 hd4 hd5 hm0 hm1 hnx hwn hk4 hk4'
      go_wp2_with fail
      go_roundw
      case rel => exact ⟨j + 1, _, _, _, HN.out, by rw [show p + (j + 1) = P + 1 from by have := HP.out; omega]; exact HD5.out, HK4.out.setCell (p := ⟨g, 4, none⟩) (fun _ => rfl) _⟩
      case measure =>
        rw [HM.out.1, HM.out.2, HM5.out.1, HM5.out.2]
        have h1 := settled_shift Hgo.out.rng Hs.out
        have h2 := Hgo.out.rng
        unfold Rng at h1 h2
        omega

/-- How many bytes past the end were taken. -/
def pastN (bs : List Int) (p : Nat) : Int := max (4 + (p : Int) - bs.length) 0

end Go.Proofs.YtpknbfkknnaajaaDoor
