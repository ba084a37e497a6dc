/- The contracts of the document's own encoder. -/
import Derived.Test.YtfdeacoaimnfeaaCodF
namespace Go.Proofs.Ytfdeacoaimnfeaa
open Go.RowKit

attribute [local go_sem ↓] Go.wp_at_zero Go.wp_at_succ

/-- A range by value. -/
abbrev rg (l h : Nat) : Value := .agg #[.int .u32 l, .int .u32 h]

set_option maxHeartbeats 400000 in
theorem qfull_any (w : World) : Calls Try.prog 25 #[] w fun e w' => e = .returned (rg 0 4294967295) ∧ Fresh w w' := by
  go_enter Try.func25, Try.ntmps25
  go_wp2
  exact bodyPost_ret (v := rg 0 4294967295) (by simp [results, Try.results25, go_sem]) rfl ⟨rfl, (Kept.refl _ _).alloc _⟩

theorem qmid_int {l h k : Nat} (o : Open l h) (hk : k ≤ 4095) :
    ((l : Int) + IntKind.u64.wrap (IntKind.u64.wrap (((h : Int) - l) / 4096 * k) + IntKind.u64.wrap ((IntKind.u64.wrap (((h : Int) - l) % 4096 * k)).tdiv 4096)) % 4294967296) % 4294967296 = ((midN l h k : Nat) : Int) := by
  obtain ⟨d, rfl⟩ : ∃ d, h = l + d := ⟨h - l, by have := o.lt; omega⟩
  have h1 := mid_parts d k hk (by have := o.hi; omega)
  have h2 := o.hi
  have e1 : (((l + d : Nat) : Int) - l) = (d : Int) := by omega
  have e2 : (d : Int) / 4096 * k = ((d / 4096 * k : Nat) : Int) := by simp
  have e3 : (d : Int) % 4096 * k = ((d % 4096 * k : Nat) : Int) := by simp
  have e4 : IntKind.u64.wrap ((d % 4096 * k : Nat) : Int) = ((d % 4096 * k : Nat) : Int) := by rw [IntKind.wrap_u64]; omega
  have e5 : ((d % 4096 * k : Nat) : Int).tdiv 4096 = ((d % 4096 * k / 4096 : Nat) : Int) := rfl
  rw [e1, e2, e3, e4, e5, IntKind.wrap_u64, IntKind.wrap_u64, IntKind.wrap_u64]
  unfold midN
  rw [show l + d - l = d from by omega]
  omega

set_option maxHeartbeats 800000 in
theorem qMid_any (l h : Nat) (c : Int) (w : World) (o : Open l h) : Calls Try.prog 37 #[rg l h, .int .i64 c] w fun e w' => e = .returned (.int .u32 (midN l h (cl c))) ∧ Fresh w w' := by
  have hlt := o.lt
  have hhi := o.hi
  go_enter Try.func37, Try.ntmps37
  go_wp2
  go_ret
  exact ⟨ret_int (by rw [cl_eq3]; exact qmid_int o (cl_bd c).2), (Kept.refl _ _).alloc _⟩

set_option maxHeartbeats 800000 in
theorem qout_any (l h : Nat) (w : World) : Calls Try.prog 31 #[rg l h] w fun e w' => e = .returned (.bool (settledB l h)) ∧ Fresh w w' := by
  go_enter Try.func31, Try.ntmps31
  go_wp2
  go_ret
  exact ⟨ret_bool (settled_int l h), (Kept.refl _ _).alloc _⟩

theorem shh_int (h : Nat) : bits .or .u32 ((h : Int) * 256 % 4294967296) 255 = ((shh h : Nat) : Int) := by
  have e1 : ((h : Int) * 256 % 4294967296) = ((h * 256 % 4294967296 : Nat) : Int) := by omega
  rw [e1, show (255 : Int) = ((255 : Nat) : Int) from rfl, u32_or_nat _ _ (by omega) (by omega), nat_join 8 (h * 256 % 4294967296) 255 (by omega) (by omega)]
  unfold shh
  omega

set_option maxHeartbeats 800000 in
theorem qnext_any (l h : Nat) (w : World) : Calls Try.prog 32 #[rg l h] w fun e w' => e = .returned (rg (shl l) (shh h)) ∧ Fresh w w' := by
  have e1 := shh_int h
  go_enter Try.func32, Try.ntmps32
  go_wp2
  exact bodyPost_ret (v := rg (shl l) (shh h)) (by simp [results, Try.results32, go_sem, shl]) rfl ⟨rfl, ((Kept.refl _ _).alloc _).alloc _⟩

set_option maxHeartbeats 800000 in
theorem qcut_any (l h : Nat) (b c : Int) (w : World) (o : Open l h) : Calls Try.prog 30 #[rg l h, .int .i64 b, .int .i64 c] w fun e w' => e = .returned (rg (nar (b != 0) l h (cl c)).1 (nar (b != 0) l h (cl c)).2) ∧ Fresh w w' := by
  obtain ⟨one, hone⟩ : ∃ one, (b != 0) = one := ⟨_, rfl⟩
  rw [hone]
  obtain ⟨k, hk⟩ : ∃ k, cl c = k := ⟨_, rfl⟩
  have hk2 := (cl_bd c).2
  rw [hk] at hk2
  have Hk := Lib.hid hk
  rw [hk]
  clear hk
  have hm := mid_le o.rng.1 o.hi hk2
  have hlt := o.lt
  have hhi := o.hi
  have hm1 : midN l h k ≤ 4294967294 := by omega
  clear hm hlt hhi
  go_enter Try.func30, Try.ntmps30
  go_wp2_with fail
  refine (qMid_any l h c _ o).mono ?_
  rw [Hk.out]
  rintro e w3 ⟨rfl, hf⟩
  have hf3 : Fresh w w3 := (((Kept.refl _ _).alloc _).alloc _).trans hf fun _ _ h => h
  have b0 : Blk w3 w.heap.size 56 #[.int .u32 l, .int .u32 h] := ((Blk.new w _ _).alloc _).kept hf id
  have b1 : Blk w3 (w.heap.size + 1) 56 #[.int .u32 0, .int .u32 0] := by
    have := (Blk.new (w.alloc (.cells #[.int .u32 l, .int .u32 h] 56)) 56 #[.int .u32 0, .int .u32 0]).kept hf id
    simpa using this
  have c0 := b0.cell 0
  have c1 := b0.cell 1
  have d0 := b1.cell 0
  have d1 := b1.cell 1
  have f0 := b1.frozen 0
  have f1 := b1.frozen 1
  simp only [List.getElem?_toArray, List.getElem?_cons_succ, List.getElem?_cons_zero] at c0 c1 d0 d1
  have HF := Lib.hid hf3
  clear hf hf3 b0 b1 Hk
  have hf4 : ∀ u x : Value, Fresh w ((w3.setCell ⟨w.heap.size + 1, 0, none⟩ u).setCell ⟨w.heap.size + 1, 1, none⟩ x) := fun u x =>
    (HF.out.setCell (p := ⟨w.heap.size + 1, 0, none⟩) (fun h => by have h' : w.heap.size + 1 < w.heap.size := h; omega) u).setCell (p := ⟨w.heap.size + 1, 1, none⟩) (fun h => by have h' : w.heap.size + 1 < w.heap.size := h; omega) x
  have HF4 := Lib.hid hf4
  clear hf4
  cases one
  · go_wp2_with fail
    exact bodyPost_ret (v := rg (midN l h k + 1) h) (by simp [results, Try.results30, go_sem, d0, d1]) rfl ⟨rfl, HF4.out _ _⟩
  · go_wp2_with fail
    exact bodyPost_ret (v := rg l (midN l h k)) (by simp [results, Try.results30, go_sem, d0, d1]) rfl ⟨rfl, HF4.out _ _⟩

/-- The document's encoder. -/
abbrev EncR (w : World) (g l h : Nat) (v : Value) (bs : List Int) : Prop := Enc w g 59 l (h : Int) v bs

set_option maxHeartbeats 800000 in
theorem qNewEnc_any (w : World) : Calls Try.prog 9 #[] w fun e w' => ∃ g, e = .returned (.pointer (some ⟨g, 0, none⟩)) ∧ EncR w' g 0 4294967295 (.slice none 0 0) [] ∧ w.heap.size ≤ g ∧ Fresh w w' := by
  go_enter Try.func9, Try.ntmps9
  go_wp2_with fail
  refine (qfull_any _).mono ?_
  rintro e w1 ⟨rfl, hf⟩
  go_wp2_with fail
  go_ret
  exact ⟨w1.heap.size, rfl, ⟨Blk.new _ _ _, Own.nil _ _ _, by simp⟩, hf.size, hf.alloc _⟩

theorem Enc.fresh {w w' : World} {g : Nat} {t : TypeId} {l : Nat} {y : Int} {v : Value} {bs : List Int} (h : Enc w g t l y v bs) (hf : Fresh w w') : Enc w' g t l y v bs := h.kept hf id (fun _ _ => id)
theorem Kept.fresh {S : Nat → Prop} {a b c : World} (h : Kept S a b) (hf : Fresh b c) : Kept S a c := h.trans hf fun _ _ h => h.elim
theorem Fresh.kept {S : Nat → Prop} {a b : World} (h : Fresh a b) : Kept S a b := h.mono fun _ _ h => h.elim

set_option maxHeartbeats 1600000 in
/-- Encode: P4.1. -/
theorem qEncode_any (g l h : Nat) (v : Value) (bs : List Int) (bit c : Int) (w : World) (e : EncR w g l h v bs) (o : Open l h) (hlen : bs.length ≤ 1000000000) :
    Calls Try.prog 12 #[.pointer (some ⟨g, 0, none⟩), .int .i64 bit, .int .i64 c] w fun e w' => e = .returned (.tuple #[]) ∧
      EPost w w' g 59 v (enc1 (bit != 0) l h (cl c)).2.1 ((enc1 (bit != 0) l h (cl c)).2.2 : Int) (bs ++ (enc1 (bit != 0) l h (cl c)).1) := by
  obtain ⟨one, hone⟩ : ∃ one, (bit != 0) = one := ⟨_, rfl⟩
  rw [hone]
  obtain ⟨k, hk⟩ : ∃ k, cl c = k := ⟨_, rfl⟩
  have hk2 := (cl_bd c).2
  rw [hk] at hk2
  have Hk := Lib.hid (And.intro hone hk)
  rw [hk]
  clear hk hone
  obtain ⟨E, hE⟩ : ∃ E, enc1 one l h k = E := ⟨_, rfl⟩
  rw [hE]
  have HE := Lib.hid hE
  clear hE
  obtain ⟨i0, hi, hz0, hz1, hz2⟩ := info_parts Try.infoByteC
  have c0 : w.cell? ⟨g, 0, none⟩ = some (.int .u32 l) := by simpa using e.blk.cell 0
  have c1 : w.cell? ⟨g, 1, none⟩ = some (.int .u32 h) := by simpa using e.blk.cell 1
  go_enter Try.func12, Try.ntmps12
  go_wp2_with fail
  refine (qcut_any l h bit c _ o).mono ?_
  rw [Hk.out.1, Hk.out.2]
  rintro e1 w2 ⟨rfl, hf2⟩
  have he2 := e.fresh hf2
  have d0 : w2.cell? ⟨g, 0, none⟩ = some (.int .u32 l) := by simpa using he2.blk.cell 0
  have d1 : w2.cell? ⟨g, 1, none⟩ = some (.int .u32 h) := by simpa using he2.blk.cell 1
  have f0 := he2.blk.frozen 0
  have f1 := he2.blk.frozen 1
  have hr2 := nar_rng (one := one) o.rng o.lt hk2
  have hE' : norm 5 (nar one l h k).1 (nar one l h k).2 = E := HE.out
  generalize (nar one l h k).1 = l1 at *
  generalize (nar one l h k).2 = h1 at *
  have hp2 : EPost w ((w2.setCell ⟨g, 0, none⟩ (.int .u32 l1)).setCell ⟨g, 1, none⟩ (.int .u32 h1)) g 59 v l1 h1 bs :=
    ⟨v, (he2.set0 (by decide) l1).set1 (by decide) h1, fun _ hk => .inl hk, ((Fresh.kept hf2).setCell (p := ⟨g, 0, none⟩) (fun _ => .inl rfl) _).setCell (p := ⟨g, 1, none⟩) (fun _ => .inl rfl) _⟩
  have Hp := Lib.hid (And.intro hp2 (Going.start hr2))
  have HE' := Lib.hid hE'
  clear hE' HE hp2 he2 hf2 hr2 o e Hk hk2 c0 c1
  go_wp2_with fail
  go_loopw [20] (fun _ wr => ∃ j out l2 h2, Going l1 h1 j out l2 h2 ∧ EPost w wr g 59 v l2 (h2 : Int) (bs ++ out)) (fun _ wr => (4294967296 + numIn wr g 0 - numIn wr g 1).toNat)
  case atStart => exact ⟨0, [], l1, h1, Hp.out.2, by simpa using Hp.out.1⟩
  case round =>
    obtain ⟨j, out, l2, h2, hgo, v2, he2, hv2, hk2⟩ := hrel
    have Hgo := Lib.hid hgo
    have Hv := Lib.hid (And.intro hv2 hk2)
    have c0 : wr.cell? ⟨g, 0, none⟩ = some (.int .u32 l2) := by simpa using he2.blk.cell 0
    have c1 : wr.cell? ⟨g, 1, none⟩ = some (.int .u32 h2) := by simpa using he2.blk.cell 1
    clear hgo hv2 hk2
    go_wp2_with fail
    refine (qout_any l2 h2 _).mono ?_
    rintro e1 w1 ⟨rfl, hf1⟩
    have he1 := he2.fresh hf1
    have hm0 := he2.num0
    have hm1 := he2.num1
    have HM := Lib.hid (And.intro hm0 hm1)
    have HF1 := Lib.hid hf1
    clear he2 hf1 c0 c1 hm0 hm1
    cases hs : settledB l2 h2
    · have Hs := Lib.hid hs
      clear hs
      go_wp2_with fail
      go_end0
      have hfin := Hgo.out.done Hs.out
      rw [HE'.out] at hfin
      rw [hfin]
      exact ⟨rfl, v2, he1, Hv.out.1, Hv.out.2.fresh HF1.out⟩
    · have Hs := Lib.hid hs
      clear hs
      have e0 : w1.cell? ⟨g, 0, none⟩ = some (.int .u32 l2) := by simpa using he1.blk.cell 0
      have e1 : w1.cell? ⟨g, 1, none⟩ = some (.int .u32 h2) := by simpa using he1.blk.cell 1
      have e2 : w1.cell? ⟨g, 2, none⟩ = some v2 := by simpa using he1.blk.cell 2
      have e2a : ∀ o, (w1.alloc o).cell? ⟨g, 2, none⟩ = some v2 := fun o => by simpa using (he1.blk.alloc o).cell 2
      have hln : (bs ++ out).length + 1 ≤ 2000000000 := by have := Hgo.out.len; have := Hgo.out.le; simp; omega
      have hh2 : h2 ≤ 4294967295 := by have := Hgo.out.rng.2; omega
      have hne := he1.ne_ (by decide)
      have hw8 : IntKind.u8.wrap ((h2 : Int) / 16777216) = (h2 : Int) / 16777216 := by rw [IntKind.wrap_u8]; omega
      go_wp2_with fail
      go_region_law
        (first
          | (refine step_append_lies _ (by rfl) _ _ _ (by rfl) 0 5 i0 (.int .u8 0) 1 1 Try.underlying31 hi hz0 hz1 hz2 rfl (by decide) v2 (bs ++ out).length (ivs .u8 (bs ++ out)) (by rfl) ((World.ownsRow.alloc he1.own _).drew) ⟨w1.heap.size, 0, none⟩ 1 1 (ivs .u8 [(h2 : Int) / 16777216]) (by rfl) (by rfl) (cell_one_new _ _ _) (ivs_one _ _) (by decide) (by unfold maxLen; omega) (by omega) (by omega) (w1.heap.size + 1) (by simp) ?_
             intro q cap w4 hown4 hgrow hat hlt
             have hblk4 := ((he1.blk.alloc (.cells #[.int .u8 ((h2 : Int) / 16777216)] 5)).drew).grown hgrow (fun e => hne e.symm)
             have c4 : w4.cell? ⟨g, 2, none⟩ = some v2 := by simpa using hblk4.cell 2
             have f4 := hblk4.frozen 2))
      all_goals
        clear hw8
        have hrg := settled_shift Hgo.out.rng Hs.out
        have hrg0 := Hgo.out.rng
        have hgrow' : (w1.alloc (.cells #[.int .u8 ((h2 : Int) / 16777216)] 5)).grownBy w4 v2.ownBlock := ⟨hgrow.os, hgrow.tape, hgrow.output, hgrow.size, hgrow.block⟩
        have hp := Enc.app he1 (by decide) (Fresh.kept HF1.out) hown4 hgrow' hat (by omega) (n := bs.length + out.length + 1) (by simp)
        have hst := settled_true.1 Hs.out
        rw [List.append_assoc, show ((h2 : Int) / 16777216) = ((l2 / 16777216 : Nat) : Int) from by omega] at hp
        obtain ⟨v5, he5, hv5, hk5⟩ := EPost.trans Hv.out.1 Hv.out.2 hp
        generalize w4.setCell ⟨g, 2, none⟩ (.slice (some ⟨q, 0, none⟩) (bs.length + out.length + 1) cap) = w5 at *
        have HR := Lib.hid (And.intro hrg (And.intro hrg0 hst))
        have H5 := Lib.hid (And.intro hv5 hk5)
        clear hv5 hk5 hp hst hrg hrg0 hown4 hgrow hgrow' hat hblk4 c4 f4 e0 e1 e2 e2a he1 hne
        have x0 : w5.cell? ⟨g, 0, none⟩ = some (.int .u32 l2) := by simpa using he5.blk.cell 0
        have x1 : w5.cell? ⟨g, 1, none⟩ = some (.int .u32 h2) := by simpa using he5.blk.cell 1
        go_wp2_with fail
        refine (qnext_any l2 h2 _).mono ?_
        rintro ee w6 ⟨rfl, hf6⟩
        have he6 := he5.fresh hf6
        have y0 : w6.cell? ⟨g, 0, none⟩ = some (.int .u32 l2) := by simpa using he6.blk.cell 0
        have y1 : w6.cell? ⟨g, 1, none⟩ = some (.int .u32 h2) := by simpa using he6.blk.cell 1
        have z0 := he6.blk.frozen 0
        have z1 := he6.blk.frozen 1
        have hp7 : EPost w ((w6.setCell ⟨g, 0, none⟩ (.int .u32 (shl l2))).setCell ⟨g, 1, none⟩ (.int .u32 (shh h2))) g 59 v (shl l2) (shh h2) (bs ++ (out ++ [((l2 / 16777216 : Nat) : Int)])) :=
          ⟨v5, (he6.set0 (by decide) _).set1 (by decide) _, H5.out.1, ((H5.out.2.fresh hf6).setCell (p := ⟨g, 0, none⟩) (fun _ => .inl rfl) _).setCell (p := ⟨g, 1, none⟩) (fun _ => .inl rfl) _⟩
        have hm := hp7.snd
        have HM7 := Lib.hid hm
        obtain ⟨hj, hnx⟩ := Hgo.out.next Hs.out
        have H7 := Lib.hid (And.intro hnx hp7)
        clear hm hnx hp7 he6 hf6 he5 x0 x1
        go_wp2_with fail
        go_roundw
        case rel => exact ⟨j + 1, _, _, _, H7.out.1, H7.out.2⟩
        case measure =>
          rw [HM.out.1, HM.out.2, HM7.out.1, HM7.out.2]
          have := HR.out
          unfold Rng at this
          omega

end Go.Proofs.Ytfdeacoaimnfeaa
