/- The code's packer: encoder and model side by side, and none of the blocks in A is theirs; bit, put, newPacker. -/
import Derived.Test.YtpknbfkknnaajaaDoorStrPack
import Derived.Test.YtpknbfkknnaajaaDoorCodF
import Derived.Test.YtpknbfkknnaajaaDoorModO
import Derived.Deep.RegionHeld3
namespace Go.Proofs.YtpknbfkknnaajaaDoor
set_option maxRecDepth 100000
open Go.RowKit

attribute [local go_sem ↓] Go.wp_at_zero Go.wp_at_succ

theorem kSc_int (lv : Nat) (L : List Bool) : ((kS lv L : Nat) : Int) = (mos lv L mo0).chance lv := (mo_chance_nat (mos_fine lv L mo0_fine) lv).1
theorem cc_kSc (lv : Nat) (L : List Bool) : cc ((kS lv L : Nat) : Int) = kS lv L := by
  have := kS_bd lv L
  unfold cc; omega
theorem encSc_len (lv : Nat) (L : List Bool) : (encS lv L).1.length ≤ 4 * L.length := by
  have h := encAll_len (pairs lv L mo0) 0 4294967295 open_full (pairs_bd lv L mo0_fine)
  rw [pairs_len] at h
  exact h

/-- The code's encoder and model, each at its bits; what lies in A is none of theirs. -/
structure PkA (A : Nat → Prop) (wr : World) (ge gm lv : Nat) (v : Value) (Le Lm : List Bool) : Prop where
  enc : EncC wr ge (encS lv Le).2.1 (encS lv Le).2.2 v (encS lv Le).1
  mdl : ∃ F, Mdl F wr gm lv (mos lv Lm mo0) ∧ ¬ F ge ∧ (∀ k, v.ownBlock = some k → ¬ F k) ∧ (∀ k, F k → k < wr.heap.size ∧ ¬ A k)
  far : ∀ k, A k → k < wr.heap.size ∧ k ≠ ge ∧ v.ownBlock ≠ some k
  kin : A 0

section
variable {A A' S : Nat → Prop} {wr w' : World} {ge gm lv : Nat} {v : Value} {L Le Lm : List Bool}
theorem PkA.kept (h : PkA A wr ge gm lv v Le Lm) (hk : Kept S wr w') (hS : ∀ k, S k → A k ∧ k ≠ 0) : PkA A w' ge gm lv v Le Lm := by
  obtain ⟨F, hm, h1, h2, h3⟩ := h.mdl
  refine ⟨h.enc.kept hk (fun e => (h.far _ (hS _ e).1).2.1 rfl) (fun k e e2 => (h.far _ (hS _ e2).1).2.2 e), ⟨F, hm.kept hk (fun e => (hS _ e).2 rfl) (fun k e e2 => (h3 k e).2 (hS _ e2).1), h1, h2, fun k e => ⟨Nat.lt_of_lt_of_le (h3 k e).1 hk.size, (h3 k e).2⟩⟩, fun k e => ⟨Nat.lt_of_lt_of_le (h.far k e).1 hk.size, (h.far k e).2⟩, h.kin⟩
/-- Other blocks that are none of theirs. -/
theorem PkA.move (h : PkA A wr ge gm lv v Le Lm) (hk : Fresh wr w') (hA : ∀ k, A' k → k < w'.heap.size ∧ (A k ∨ wr.heap.size ≤ k)) (h0 : A' 0) : PkA A' w' ge gm lv v Le Lm := by
  obtain ⟨F, hm, h1, h2, h3⟩ := h.mdl
  have he := h.enc.blk.lt
  refine ⟨h.enc.kept hk id (fun _ _ => id), ⟨F, hm.fresh hk, h1, h2, fun k e => ⟨Nat.lt_of_lt_of_le (h3 k e).1 hk.size, fun e2 => ?_⟩⟩, fun k e => ⟨(hA k e).1, ?_, fun e2 => ?_⟩, h0⟩
  · rcases (hA k e2).2 with h | h4
    · exact (h3 k e).2 h
    · have := (h3 k e).1; omega
  · rcases (hA k e).2 with h4 | h4
    · exact (h.far k h4).2.1
    · omega
  · rcases (hA k e).2 with h4 | h4
    · exact (h.far k h4).2.2 e2
    · have := h.enc.own.lt e2; omega
theorem PkA.fresh (h : PkA A wr ge gm lv v Le Lm) (hk : Fresh wr w') : PkA A w' ge gm lv v Le Lm := h.kept hk (fun _ h => h.elim)

theorem PkA.ask (h : PkA A wr ge gm lv v Le Lm) : Calls Tryd.prog 58 #[.pointer (some ⟨gm, 0, none⟩)] wr fun e w' => e = .returned (.int .i64 (kS lv Lm : Nat)) ∧ PkA A w' ge gm lv v Le Lm ∧ Kept (fun k => ¬ A k) wr w' := by
  obtain ⟨F, hm, h1, h2, h3⟩ := h.mdl
  refine (mChance_any F gm lv _ wr hm).mono ?_
  rintro e w' ⟨rfl, hm, hk⟩
  refine ⟨?_, ⟨h.enc.kept hk h1 h2, ⟨F, hm, h1, h2, fun k e => ⟨Nat.lt_of_lt_of_le (h3 k e).1 hk.size, (h3 k e).2⟩⟩, fun k e => ⟨Nat.lt_of_lt_of_le (h.far k e).1 hk.size, (h.far k e).2⟩, h.kin⟩, hk.mono fun k _ e => (h3 k e).2⟩
  rw [← kSc_int]
theorem PkA.teach (h : PkA A wr ge gm lv v Le Lm) (b : Int) : Calls Tryd.prog 63 #[.pointer (some ⟨gm, 0, none⟩), .int .i64 b] wr fun e w' => e = .returned (.tuple #[]) ∧ PkA A w' ge gm lv v Le (Lm ++ [b != 0]) ∧ Kept (fun k => ¬ A k) wr w' := by
  obtain ⟨F, hm, h1, h2, h3⟩ := h.mdl
  refine (mdLearn_any F gm lv _ b wr hm).mono ?_
  rintro e w' ⟨rfl, hm, hk⟩
  rw [← mos_snoc] at hm
  exact ⟨rfl, ⟨h.enc.kept hk h1 h2, ⟨F, hm, h1, h2, fun k e => ⟨Nat.lt_of_lt_of_le (h3 k e).1 hk.size, (h3 k e).2⟩⟩, fun k e => ⟨Nat.lt_of_lt_of_le (h.far k e).1 hk.size, (h.far k e).2⟩, h.kin⟩, hk.mono fun k _ e => (h3 k e).2⟩
theorem PkA.code (h : PkA A wr ge gm lv v L Lm) (b : Int) (hl : L.length ≤ 100000000) : Calls Tryd.prog 62 #[.pointer (some ⟨ge, 0, none⟩), .int .i64 b, .int .i64 (kS lv L : Nat)] wr fun e w' => e = .returned (.tuple #[]) ∧ ∃ v', PkA A w' ge gm lv v' (L ++ [b != 0]) Lm ∧ Kept (fun k => ¬ A k) wr w' := by
  obtain ⟨F, hm, h1, h2, h3⟩ := h.mdl
  have hlen := encSc_len lv L
  have hE := encode_any ge _ _ v _ b (kS lv L : Nat) wr h.enc (encS_open lv L) (by omega)
  have hs := encS_snoc lv L (b != 0)
  rw [cc_kSc] at hE
  refine hE.mono ?_
  rintro e w' ⟨rfl, v', he, hv, hk⟩
  have hA : ∀ k, EFoot ge v k → ¬ A k := fun k e e2 => e.elim (fun e => (h.far k e2).2.1 e) (fun e => (h.far k e2).2.2 e)
  refine ⟨rfl, v', ⟨by rw [hs]; exact he, ⟨F, hm.kept hk (fun e => hA _ e h.kin) (fun k e e2 => e2.elim (fun e2 => h1 (e2 ▸ e)) (fun e2 => h2 k e2 e)), h1, fun k e e2 => (hv k e).elim (fun e => h2 k e e2) (fun e => by have := (h3 k e2).1; omega), fun k e => ⟨Nat.lt_of_lt_of_le (h3 k e).1 hk.size, (h3 k e).2⟩⟩, fun k e => ⟨Nat.lt_of_lt_of_le (h.far k e).1 hk.size, (h.far k e).2.1, fun e2 => (hv k e2).elim (h.far k e).2.2 (fun e2 => by have := (h.far k e).1; omega)⟩, h.kin⟩, hk.mono fun k _ e => hA k e⟩
theorem PkA.flush (h : PkA A wr ge gm lv v L Lm) (hl : L.length ≤ 100000000) : Calls Tryd.prog 20 #[.pointer (some ⟨ge, 0, none⟩)] wr fun e w' => ∃ u, e = .returned u ∧ Own w' 5 .u8 u (packB lv L) ∧ (∀ k, A k → u.ownBlock ≠ some k) ∧ Kept (fun k => ¬ A k) wr w' := by
  have hlen := encSc_len lv L
  refine (flush_any ge _ _ v _ wr h.enc (encS_open lv L) (by omega)).mono ?_
  rintro e w' ⟨u, rfl, ho, hv, _, hk⟩
  refine ⟨u, rfl, ho, fun k e e2 => ?_, hk.mono fun k _ e e2 => e.elim (fun e => (h.far k e2).2.1 e) (fun e => (h.far k e2).2.2 e)⟩
  rcases hv k e2 with e3 | e3
  · exact (h.far k e).2.2 e3
  · have := (h.far k e).1; omega
end

theorem intBit (b : Int) : (b != 0) = (b != 0) := rfl

set_option maxHeartbeats 1600000 in
/-- bit: one bit is packed. -/
theorem cBit_any (A : Nat → Prop) (ge gm lv : Nat) (v : Value) (L : List Bool) (b : Int) (w : World) (h : PkA A w ge gm lv v L L) (hl : L.length ≤ 99999999) :
    Calls Tryd.prog 36 #[.agg #[.pointer (some ⟨ge, 0, none⟩), .pointer (some ⟨gm, 0, none⟩)], .int .i64 b] w fun e w' => e = .returned (.tuple #[]) ∧ ∃ v', PkA A w' ge gm lv v' (L ++ [b != 0]) (L ++ [b != 0]) ∧ Kept (fun k => ¬ A k) w w' := by
  have hbx := Blk.new w 41 #[.pointer (some ⟨ge, 0, none⟩), .pointer (some ⟨gm, 0, none⟩)]
  have hfa : Fresh w (w.alloc (.cells #[.pointer (some ⟨ge, 0, none⟩), .pointer (some ⟨gm, 0, none⟩)] 41)) := (Kept.refl _ _).alloc _
  have hsz : (w.alloc (.cells #[.pointer (some ⟨ge, 0, none⟩), .pointer (some ⟨gm, 0, none⟩)] 41)).heap.size = w.heap.size + 1 := alloc_size _ _
  have h1 : PkA (fun k => A k ∨ k = w.heap.size) (w.alloc (.cells #[.pointer (some ⟨ge, 0, none⟩), .pointer (some ⟨gm, 0, none⟩)] 41)) ge gm lv v L L :=
    h.move hfa (fun k e => e.elim (fun e => ⟨by have := (h.far k e).1; omega, .inl e⟩) (fun e => ⟨by omega, .inr (by omega)⟩)) (.inl h.kin)
  have c0 := hbx.cell 0
  have c1 := hbx.cell 1
  simp only [List.getElem?_toArray, List.getElem?_cons_zero, List.getElem?_cons_succ] at c0 c1
  have HA : Hid (∀ V, Fresh (w.alloc (.cells #[.pointer (some ⟨ge, 0, none⟩), .pointer (some ⟨gm, 0, none⟩)] 41)) V → Calls Tryd.prog 58 #[.pointer (some ⟨gm, 0, none⟩)] V fun e w' => e = .returned (.int .i64 (kS lv L : Nat)) ∧ PkA (fun k => A k ∨ k = w.heap.size) w' ge gm lv v L L ∧ Kept (fun k => ¬ (A k ∨ k = w.heap.size)) V w') := Lib.hid fun V hk => (h1.fresh hk).ask
  have HE : Hid (∀ V, PkA (fun k => A k ∨ k = w.heap.size) V ge gm lv v L L → Calls Tryd.prog 62 #[.pointer (some ⟨ge, 0, none⟩), .int .i64 b, .int .i64 (kS lv L : Nat)] V fun e w' => e = .returned (.tuple #[]) ∧ ∃ v', PkA (fun k => A k ∨ k = w.heap.size) w' ge gm lv v' (L ++ [b != 0]) L ∧ Kept (fun k => ¬ (A k ∨ k = w.heap.size)) V w') := Lib.hid fun V h => h.code b (by omega)
  have HF := Lib.hid (show Kept (fun k => ¬ A k) w (w.alloc (.cells #[.pointer (some ⟨ge, 0, none⟩), .pointer (some ⟨gm, 0, none⟩)] 41)) from (Kept.refl _ _).alloc _)
  have hb1 : w.heap.size < (w.alloc (.cells #[.pointer (some ⟨ge, 0, none⟩), .pointer (some ⟨gm, 0, none⟩)] 41)).heap.size := by omega
  have HL : Hid (∀ k, A k → k ≠ w.heap.size) := Lib.hid fun k e => by have := (h.far k e).1; omega
  have HK : Hid (A 0) := Lib.hid h.kin
  clear h1 hfa hsz h hbx
  go_enter Tryd.func36, Tryd.ntmps36
  go_wp2_with fail
  generalize (w.alloc (.cells #[.pointer (some ⟨ge, 0, none⟩), .pointer (some ⟨gm, 0, none⟩)] 41)) = w1 at *
  generalize w.heap.size = b0 at *
  have HC := Lib.hid (And.intro c0 c1)
  go_region_held3 (fun w' => w'.cell? ⟨b0, 0, none⟩ = some (.pointer (some ⟨ge, 0, none⟩)) ∧ w'.cell? ⟨b0, 1, none⟩ = some (.pointer (some ⟨gm, 0, none⟩)))
    (first | go_keep | exact H6 | exact H7)
    (first
      | (go_at_call 58; refine (HA.out _ (by first | exact Kept.refl _ _ | exact (Kept.refl _ _).drew)).mono ?_; rintro e5 w6 ⟨rfl, hp6, hk6⟩; have H6 := (And.intro ((hk6.cell (p := ⟨b0, 0, none⟩) hb1 (fun e => e (.inr rfl))).trans HC.out.1) ((hk6.cell (p := ⟨b0, 1, none⟩) hb1 (fun e => e (.inr rfl))).trans HC.out.2)); have hb6 := Nat.lt_of_lt_of_le hb1 hk6.size)
      | (go_at_call 62; refine (HE.out _ hp6).mono ?_; rintro e7 w7 ⟨rfl, v7, hp7, hk7⟩; have H7 := (And.intro ((hk7.cell (p := ⟨b0, 0, none⟩) hb6 (fun e => e (.inr rfl))).trans H6.1) ((hk7.cell (p := ⟨b0, 1, none⟩) hb6 (fun e => e (.inr rfl))).trans H6.2))))
  obtain ⟨m0, m1⟩ := H7
  have HT := Lib.hid (hp7.teach b)
  have HF7 := Lib.hid ((HF.out.drew.trans hk6 (fun k hk e e2 => e (.inl e2))).trans hk7 (fun k hk e e2 => e (.inl e2)))
  clear hp6 hp7 hk6 hk7 H6 HC HA HE HF hb1 c0 c1
  go_wp2_with fail
  refine HT.out.mono ?_
  rintro e8 w8 ⟨rfl, hp8, hk8⟩
  have HP8 := Lib.hid (hp8.move (A' := A) (Kept.refl _ _) (fun k e => ⟨(hp8.far k (.inl e)).1, .inl (.inl e)⟩) HK.out)
  have HF8 := Lib.hid (HF7.out.trans hk8 (fun k hk e e2 => e (.inl e2)))
  clear hp8 hk8 HT HF7
  go_wp2_with fail
  go_end0
  exact ⟨rfl, _, HP8.out, HF8.out⟩

set_option maxHeartbeats 800000 in
/-- A new packer. -/
theorem cNewPacker_any (lv : Nat) (w : World) (hk : Kin w) (hl : lv ≤ 2) :
    Calls Tryd.prog 18 #[.int .i64 lv] w fun e w' => ∃ ge gm, e = .returned (.agg #[.pointer (some ⟨ge, 0, none⟩), .pointer (some ⟨gm, 0, none⟩)]) ∧ PkA (fun k => k < w.heap.size) w' ge gm lv (.slice none 0 0) [] [] ∧ Fresh w w' := by
  have hlv : lvl (lv : Int) = lv := by unfold lvl; omega
  have HK := Lib.hid hk
  clear hk
  go_enter Tryd.func18, Tryd.ntmps18
  go_wp2_with fail
  have hf0 : Fresh w (w.alloc (.cells #[.pointer none, .pointer none] 41)) := (Kept.refl _ _).alloc _
  have hc0 : Blk (w.alloc (.cells #[.pointer none, .pointer none] 41)) w.heap.size 41 #[.pointer none, .pointer none] := Blk.new _ _ _
  refine (newEnc_any _).mono ?_
  rintro e w1 ⟨ge, rfl, he, hge, hf1⟩
  have hs0 : w.heap.size ≤ ge := Nat.le_trans hf0.size hge
  have hf01 := hf0.trans hf1 (fun _ _ h => h)
  have HN := Lib.hid (mdNew_any (lv : Int) w1 (HK.out.kept hf01 id))
  have H1 := Lib.hid (And.intro he (And.intro hs0 (And.intro hf01 (hc0.kept hf1 id))))
  clear he hs0 hf01 hge hf1 hf0 hc0
  go_wp2_with fail
  refine HN.out.mono ?_
  rw [hlv]
  rintro e w2 ⟨gm, rfl, hm, hf2⟩
  have hb2 := H1.out.2.2.2.kept hf2 id
  have HP : Hid (PkA (fun k => k < w.heap.size + 1) w2 ge gm lv (.slice none 0 0) [] [] ∧ Fresh w w2) := by
    obtain ⟨he, hs0, hf01, _⟩ := H1.out
    have hlt := he.blk.lt
    have hs1 := hf01.size
    have hs2 := hf2.size
    have hp := HK.out.pos
    have hlt2 := hb2.lt
    refine Lib.hid ⟨⟨he.kept hf2 id (fun _ _ => id), ⟨_, hm, fun e => by omega, fun k (e : none = some k) => (by cases e), fun k e => ⟨e.2, fun (e2 : k < w.heap.size + 1) => by have := H1.out.2.2.2.lt; omega⟩⟩, fun k (e : k < w.heap.size + 1) => ⟨by omega, fun e3 => ?_, fun (e : none = some k) => by cases e⟩, by omega⟩, hf01.trans hf2 (fun _ _ h => h)⟩
    subst e3
    have e4 : k = w.heap.size := by omega
    subst e4
    exact Blk.ne_ he.blk H1.out.2.2.2 (by decide) rfl
  have d0 := hb2.cell 0
  have d1 := hb2.cell 1
  have f0 := hb2.frozen 0
  have f1 := hb2.frozen 1
  clear hm hf2 H1 HN
  go_wp2_with fail
  have hks : Kept (fun k => k = w.heap.size) w2 ((w2.setCell ⟨w.heap.size, 0, none⟩ (.pointer (some ⟨ge, 0, none⟩))).setCell ⟨w.heap.size, 1, none⟩ (.pointer (some ⟨gm, 0, none⟩))) := ((Kept.refl (fun k => k = w.heap.size) w2).setCell (p := ⟨w.heap.size, 0, none⟩) (fun _ => rfl) _).setCell (p := ⟨w.heap.size, 1, none⟩) (fun _ => rfl) _
  have hp3 := HP.out.1.kept hks (fun k e => ⟨by have e' : k = w.heap.size := e; omega, fun e2 => by have := HK.out.pos; have e' : k = w.heap.size := e; omega⟩)
  have hf3 : Fresh w ((w2.setCell ⟨w.heap.size, 0, none⟩ (.pointer (some ⟨ge, 0, none⟩))).setCell ⟨w.heap.size, 1, none⟩ (.pointer (some ⟨gm, 0, none⟩))) := HP.out.2.trans hks (fun k hk e => by have e' : k = w.heap.size := e; omega)
  have hb3 := (hb2.set_ 0 (.pointer (some ⟨ge, 0, none⟩))).set_ 1 (.pointer (some ⟨gm, 0, none⟩))
  generalize ((w2.setCell ⟨w.heap.size, 0, none⟩ (.pointer (some ⟨ge, 0, none⟩))).setCell ⟨w.heap.size, 1, none⟩ (.pointer (some ⟨gm, 0, none⟩))) = w3 at *
  have d2 := hb3.cell 0
  have d3 := hb3.cell 1
  have hp4 := hp3.move (A' := fun k => k < w.heap.size) (Kept.refl _ _) (fun k e => ⟨by have := hf3.size; have e' : k < w.heap.size := e; omega, .inl (by have e' : k < w.heap.size := e; omega)⟩) HK.out.pos
  simp at d2 d3
  refine bodyPost_ret (v := .agg #[.pointer (some ⟨ge, 0, none⟩), .pointer (some ⟨gm, 0, none⟩)]) (by simp [results, Tryd.results18, go_sem, d2, d3]) rfl ⟨ge, gm, rfl, hp4, hf3⟩

end Go.Proofs.YtpknbfkknnaajaaDoor
