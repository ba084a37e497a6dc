/- NumBack: what is written is read; what is read as a number, written again, is the same bytes; folded and unfolded all numbers are as they were. For all numbers and all texts. No conditions. -/
import Derived.Test.YtpilmeklmanjeaaNumAwake
import Derived.Test.YtpilmeklmanjeaaNumText
import Derived.Test.YtpilmeklmanjeaaNumOpen
import Derived.Test.YtpilmeklmanjeaaHelpStr
import Derived.Deep.RegionHeld3
namespace Go.Proofs.Ytpilmeklmanjeaa.numBack
open Go.ChangeShapes Go.WideShapes Go.ChangeAt Go.RowKit

theorem nx_at (pre post : List Int) (x : Nat) (hx : x < 18446744073709551616) : nx (pre ++ sv x ++ post) pre.length 0 = (x, pre.length + (sv x).length, 0) := by
  have e : (pre ++ sv x ++ post).drop pre.length = sv x ++ post := by rw [List.append_assoc]; simp
  unfold nx
  rw [if_neg (by simp), e, rd_sv post x 0 0 (by simpa using hx) (by omega) (by omega)]
  simp

theorem tk_at (pre mid post : List Int) (n : Nat) (hn : n = mid.length) : tk (pre ++ mid ++ post) pre.length 0 n = (mid, pre.length + n, 0) := by
  have e : (pre ++ mid ++ post).drop pre.length = mid ++ post := by rw [List.append_assoc]; simp
  unfold tk
  rw [if_neg (by simp), if_pos (by simp; omega), e, hn]
  simp

theorem txt_at (pre xs post : List Int) (h : xs.length ≤ 3000) : txt (pre ++ (sv xs.length ++ xs) ++ post) pre.length 0 (xs.length : Int) = (xs, pre.length + (sv xs.length).length + xs.length, 0) := by
  have e1 : pre ++ (sv xs.length ++ xs) ++ post = pre ++ sv xs.length ++ (xs ++ post) := by simp
  have e2 : pre ++ (sv xs.length ++ xs) ++ post = (pre ++ sv xs.length) ++ xs ++ post := by simp
  have h1 := nx_at pre (xs ++ post) xs.length (by omega)
  have h2 := tk_at (pre ++ sv xs.length) xs post xs.length rfl
  rw [← e1] at h1
  rw [← e2, List.length_append] at h2
  unfold txt
  rw [h1]
  simp only
  rw [h2, if_neg (by omega)]
  simp

/-- All that is read behind what was written. -/
theorem all_back (v : Nat) (z : Nat) (xs : List Int) (hv : v < 18446744073709551616) (hz : z < 18446744073709551616) (hx : xs.length ≤ 3000) :
    ∀ T, T = [] ++ sv v ++ sv z ++ sv xs.length ++ xs ++ leBytes v (wid 8) ++ beBytes v (wid 8) → ∃ p1 p2 p3 p4, nx T 0 0 = (v, p1, 0) ∧ nx T p1 0 = (z, p2, 0) ∧ txt T p2 0 (xs.length : Int) = (xs, p3, 0) ∧ tk T p3 0 (wid 8) = (leBytes v (wid 8), p4, 0) ∧ tk T p4 0 (wid 8) = (beBytes v (wid 8), T.length, 0) := by
  intro T hT
  have h1 := nx_at [] (sv z ++ sv xs.length ++ xs ++ leBytes v (wid 8) ++ beBytes v (wid 8)) v hv
  have h2 := nx_at (sv v) (sv xs.length ++ xs ++ leBytes v (wid 8) ++ beBytes v (wid 8)) z hz
  have h3 := txt_at (sv v ++ sv z) xs (leBytes v (wid 8) ++ beBytes v (wid 8)) hx
  have h4 := tk_at (sv v ++ sv z ++ sv xs.length ++ xs) (leBytes v (wid 8)) (beBytes v (wid 8)) (wid 8) (by rw [leBytes_length])
  have h5 := tk_at (sv v ++ sv z ++ sv xs.length ++ xs ++ leBytes v (wid 8)) (beBytes v (wid 8)) [] (wid 8) (by rw [beBytes_length])
  have e1 : [] ++ sv v ++ (sv z ++ sv xs.length ++ xs ++ leBytes v (wid 8) ++ beBytes v (wid 8)) = T := by rw [hT]; simp
  have e2 : sv v ++ sv z ++ (sv xs.length ++ xs ++ leBytes v (wid 8) ++ beBytes v (wid 8)) = T := by rw [hT]; simp
  have e3 : sv v ++ sv z ++ (sv xs.length ++ xs) ++ (leBytes v (wid 8) ++ beBytes v (wid 8)) = T := by rw [hT]; simp
  have e4 : sv v ++ sv z ++ sv xs.length ++ xs ++ leBytes v (wid 8) ++ beBytes v (wid 8) = T := by rw [hT]; simp
  have e5 : sv v ++ sv z ++ sv xs.length ++ xs ++ leBytes v (wid 8) ++ beBytes v (wid 8) ++ [] = T := by rw [hT]; simp
  rw [e1] at h1; rw [e2] at h2; rw [e3] at h3; rw [e4] at h4; rw [e5] at h5
  have hl : T.length = (sv v ++ sv z ++ sv xs.length ++ xs ++ leBytes v (wid 8)).length + wid 8 := by rw [hT]; simp [beBytes_length]; omega
  refine ⟨(sv v).length, (sv v ++ sv z).length, (sv v ++ sv z ++ sv xs.length ++ xs).length, (sv v ++ sv z ++ sv xs.length ++ xs ++ leBytes v (wid 8)).length, by simpa using h1, by simpa using h2, ?_, ?_, ?_⟩
  · rw [h3]; simp; omega
  · rw [h4]; simp [leBytes_length]; omega
  · rw [h5, hl]

theorem unfold_bounds (v : Nat) (hv : v < 18446744073709551616) : -9223372036854775808 ≤ unfold_ v ∧ unfold_ v < 9223372036854775808 := by
  unfold unfold_; split <;> omega

/-- A writer that is new. -/
structure WS (w0 wr : World) (g : Nat) (v : Value) (bs : List Int) : Prop where
  o : NW wr g v bs
  fr : Fresh w0 wr
  nw : ∀ k, NFoot g v k → w0.heap.size ≤ k
theorem WS.step {w0 wr w' : World} {g : Nat} {v : Value} {bs bs' : List Int} (h : WS w0 wr g v bs) (hp : NPost wr w' g v bs') : ∃ v', WS w0 w' g v' bs' := by
  obtain ⟨v', ho, hv, hk⟩ := hp
  refine ⟨v', ho, h.fr.trans hk (fun i hi h1 => ?_), fun k hk' => ?_⟩
  · have := h.nw i h1; omega
  · rcases hk' with e | e
    · exact h.nw k (.inl e)
    · rcases hv k e with e | e
      · exact h.nw k (.inr e)
      · have := h.fr.size; omega
theorem WS.new {w0 wr w' : World} {g : Nat} {v : Value} {bs : List Int} (h : WS w0 wr g v bs) (hf : Fresh wr w') : WS w0 w' g v bs :=
  ⟨h.o.kept hf (fun _ _ => id), h.fr.trans hf (fun _ _ h => h), h.nw⟩
theorem WS.start {w0 wr : World} (hf : Fresh w0 wr) : WS w0 (wr.alloc (.cells #[.slice none 0 0] 26)) wr.heap.size (.slice none 0 0) [] :=
  ⟨NW.new wr, hf.alloc _, fun k hk => by
    have := hf.size
    rcases hk with e | e
    · omega
    · cases e⟩

/-- A reader that is new. -/
structure RS (w0 wr : World) (g : Nat) (A : Option Addr) (c : Nat) (bs : List Int) (p : Nat) (err : Int) : Prop where
  o : NRd wr g 56 [] A c bs p err
  fr : Fresh w0 wr
  nw : w0.heap.size ≤ g
theorem RS.step {w0 wr w' : World} {g : Nat} {A : Option Addr} {c : Nat} {bs : List Int} {p p' : Nat} {err err' : Int} (h : RS w0 wr g A c bs p err) (ho : NRd w' g 56 [] A c bs p' err') (hk : Mine g wr w') : RS w0 w' g A c bs p' err' :=
  ⟨ho, h.fr.trans hk (fun i hi e => by have := h.nw; omega), h.nw⟩
theorem RS.new {w0 wr w' : World} {g : Nat} {A : Option Addr} {c : Nat} {bs : List Int} {p : Nat} {err : Int} (h : RS w0 wr g A c bs p err) (hf : Fresh wr w') : RS w0 w' g A c bs p err :=
  ⟨h.o.kept hf id (fun _ _ _ _ => id), h.fr.trans hf (fun _ _ h => h), h.nw⟩

set_option maxRecDepth 100000 in
set_option maxHeartbeats 4000000 in
theorem walk (v : Nat) (z : Int) (B : Option Addr) (nb cb : Nat) (xs : List Int) (R : Option Addr) (nr cr : Nat) (rs : List Int) (w : World) (hv : v < 18446744073709551616) (hz1 : -9223372036854775808 ≤ z) (hz2 : z < 9223372036854775808)
    (hb : Row w .u8 B nb xs) (hxs : ∀ x ∈ xs, 0 ≤ x ∧ x < 256) (hr : Row w .u8 R nr rs) (hrs : ∀ x ∈ rs, 0 ≤ x ∧ x < 256) (hcr : nr ≤ cr) (hnb : nb ≤ maxLen) (hnr : nr ≤ maxLen) :
    Calls Try.prog 3 #[.int .u64 v, .int .i64 z, .slice B nb cb, .slice R nr cr] w fun e w' => e = .returned (.bool true) ∧ Below w.heap.size w w' := by
  unfold maxLen at hnb hnr
  by_cases hsmall : nb ≤ 3000 ∧ nr ≤ 3000
  · obtain ⟨hm, hn⟩ := hsmall
    have hg1 : ¬ (3000 : Int) < nb := by omega
    have hg2 : ¬ (3000 : Int) < nr := by omega
    have hfz := fold_lt z hz1 hz2
    obtain ⟨T, hT⟩ : ∃ T, T = [] ++ sv v ++ sv (fold z) ++ sv xs.length ++ xs ++ leBytes v (wid 8) ++ beBytes v (wid 8) := ⟨_, rfl⟩
    have hxl := hb.len
    obtain ⟨p1, p2, p3, p4, t1, t2, t3, t4, t5⟩ := all_back v (fold z) xs hv hfz (by omega) T hT
    have hw8 : wid 8 = 8 := rfl
    have hl8 : leNum (leBytes v (wid 8)) = v := by rw [leNum_leBytes, hw8]; exact Nat.mod_eq_of_lt (by simpa using hv)
    have hb8 : beNum (beBytes v (wid 8)) = v := by rw [beNum_beBytes, hw8]; exact Nat.mod_eq_of_lt (by simpa using hv)
    have hTb : ∀ x ∈ T, 0 ≤ x ∧ x < 256 := by
      intro x hx
      rw [hT] at hx
      simp only [List.mem_append, List.nil_append] at hx
      rcases hx with ((((hx | hx) | hx) | hx) | hx) | hx
      · exact sv_byte _ x hx
      · exact sv_byte _ x hx
      · exact sv_byte _ x hx
      · exact hxs x hx
      · exact leBytes_byte _ _ x hx
      · exact beBytes_byte _ _ x hx
    have hTl : T.length ≤ 3060 := by
      have a1 := sv_le10 v hv
      have a2 := sv_le10 _ hfz
      have a3 := sv_le10 xs.length (by omega)
      have a4 := leBytes_len8 v 8
      have a5 := beBytes_len8 v 8
      rw [hT]
      simp only [List.length_append, List.length_nil]
      omega
    rw [hxl] at t3
    rw [hxl] at hT
    have HB := Lib.hid hb
    have HR := Lib.hid hr
    have HX := Lib.hid (And.intro hxs hrs)
    have HT := Lib.hid (And.intro hT hTb)
    have Ht1 := Lib.hid t1
    have Ht2 := Lib.hid t2
    have Ht3 := Lib.hid t3
    have Ht4 := Lib.hid (And.intro t4 hl8)
    have Ht5 := Lib.hid (And.intro t5 hb8)
    have Hlen := Lib.hid (And.intro hb.len hr.len)
    clear hb hr hxs hrs hT hTb t1 t2 t3 t4 t5 hl8 hb8 hxl hw8
    go_enter Try.func3, Try.ntmps3
    go_wp2_with fail
    have h0 := WS.start (Kept.refl (fun _ => False) w)
    generalize w.alloc (.cells #[.slice none 0 0] 26) = w0 at *
    refine (nNum_any _ _ _ v _ h0.o hv (by simp)).mono ?_
    rintro e w1 ⟨rfl, hp⟩
    obtain ⟨v1, h1⟩ := h0.step hp
    clear hp h0
    go_wp2_with fail
    refine (nZig_any _ _ _ z _ h1.o hz1 hz2 (by have := sv_le10 v hv; simp; omega)).mono ?_
    rintro e w2 ⟨rfl, hp⟩
    obtain ⟨v2, h2⟩ := h1.step hp
    clear hp h1
    go_wp2_with fail
    refine (nText_any _ _ _ B nb cb xs _ h2.o (HB.out.kept h2.fr (fun _ _ _ _ => id)) (fun b o e hn hf => by
      obtain ⟨b', o', e', hb', _⟩ := HB.out.at_ 0 hn
      rw [e] at e'
      injection e' with e'
      injection e' with e'
      have := h2.nw b hf
      omega) (by have := sv_le10 v hv; have := sv_le10 _ hfz; simp; omega)).mono ?_
    rintro e w3 ⟨rfl, hp⟩
    obtain ⟨v3, h3⟩ := h2.step hp
    clear hp h2
    have hl3 : ([] ++ sv v ++ sv (fold z) ++ sv nb ++ xs).length ≤ 3060 := by
      have a1 := sv_le10 v hv
      have a2 := sv_le10 _ hfz
      have a3 := sv_le10 nb (by omega)
      have := Hlen.out.1
      simp only [List.length_append, List.length_nil]
      omega
    generalize [] ++ sv v ++ sv (fold z) ++ sv nb ++ xs = T3 at *
    go_wp2_with fail
    refine (nLittle_any _ _ _ v 8 _ h3.o hv (by omega)).mono ?_
    rintro e w4 ⟨rfl, hp⟩
    obtain ⟨v4, h4⟩ := h3.step hp
    clear hp h3
    go_wp2_with fail
    refine (nBig_any _ _ _ v 8 _ h4.o hv (by have := leBytes_len8 v 8; rw [List.length_append]; omega)).mono ?_
    rintro e w5 ⟨rfl, hp⟩
    obtain ⟨v5, h5⟩ := h4.step hp
    have hT5 : T3 ++ leBytes v (wid 8) ++ beBytes v (wid 8) = T := HT.out.1.symm
    rw [hT5] at h5
    clear hp h4 hT5 hl3
    go_wp2_with fail
    refine (nBytes_any _ _ _ _ h5.o (by omega)).mono ?_
    rintro e w6 ⟨u, rfl, hown, _, hk6⟩
    have hf6 : Fresh w w6 := h5.fr.trans hk6 (fun _ _ h => h)
    obtain ⟨Au, cu, rfl, hru, _⟩ := hown.row
    clear hown hk6 h5
    go_wp2_with fail
    refine (nrNew_any Au T.length cu T _ hru HT.out.2 (by omega)).mono ?_
    rintro e w7 ⟨g, A, c, rfl, hN, hgn, _, hk7⟩
    have r0 : RS w w7 g A c T 0 0 := ⟨hN, hf6.trans hk7 (fun _ _ h => h), by have := hf6.size; omega⟩
    clear hN hk7 hf6 hru hgn
    have R0 := Lib.hid r0
    clear r0
    go_wp2_with fail
    refine (nAwake_any _).mono ?_
    rintro e w8 ⟨rfl, hk8⟩
    have r1 := R0.out.new hk8
    have R1 := Lib.hid r1
    clear r1 hk8 R0
    go_wp2_with fail
    refine (nrNum_any g _ _ A c T 0 0 _ R1.out.o).mono ?_
    rintro e w9 ⟨rfl, hN, hk⟩
    rw [Ht1.out] at hN ⊢
    simp only at hN ⊢
    have r2 := R1.out.step hN hk
    have R2 := Lib.hid r2
    have hneq : ((v : Int) != (v : Int)) = false := by simp
    have hzeq : (z != z) = false := by simp
    clear r2 hN hk R1
    go_wp2_with fail
    refine (nrZig_any g _ _ A c T p1 0 _ R2.out.o).mono ?_
    rintro e w10 ⟨rfl, hN, hk⟩
    rw [Ht2.out] at hN ⊢
    simp only [unfold_fold] at hN ⊢
    have r3 := R2.out.step hN hk
    have R3 := Lib.hid r3
    clear r3 hN hk R2
    go_wp2_with fail
    refine (nrText_any g _ _ A c T p2 0 (nb : Int) _ (by omega) R3.out.o).mono ?_
    rintro e w11 ⟨ut, rfl, hown, _, hN, hk⟩
    rw [Ht3.out] at hN hown
    simp only at hN hown
    have r4 := R3.out.step hN hk
    have R4 := Lib.hid r4
    obtain ⟨At, ct, rfl, hrt, _⟩ := hown.row
    have Hrt := Lib.hid (And.intro hrt (HB.out.kept r4.fr (fun _ _ _ _ => id)))
    clear r4 hN hk R3 hown hrt
    go_wp2_with fail
    refine (hBytes_any At B _ _ ct cb xs xs _ Hrt.out.1 Hrt.out.2 HX.out.1 HX.out.1).mono ?_
    rintro e w12 ⟨rfl, rfl⟩
    have hdec : decide (xs = xs) = true := by simp
    rw [hdec]
    clear hdec
    go_wp2_with fail
    refine (nrLittle_any g _ _ A c T p3 0 _ 8 R4.out.o).mono ?_
    rintro e w13 ⟨rfl, hN, hk⟩
    rw [Ht4.out.1] at hN ⊢
    simp only [Ht4.out.2] at hN ⊢
    have r5 := R4.out.step hN hk
    have R5 := Lib.hid r5
    clear r5 hN hk R4 Hrt
    go_wp2_with fail
    refine (nrBig_any g _ _ A c T p4 0 _ 8 R5.out.o).mono ?_
    rintro e w14 ⟨rfl, hN, hk⟩
    rw [Ht5.out.1] at hN ⊢
    simp only [Ht5.out.2] at hN ⊢
    have r6 := R5.out.step hN hk
    have R6 := Lib.hid r6
    clear r6 hN hk R5
    go_wp2_with fail
    refine (nrEnd_any g _ _ A c T T.length 0 _ 0 R6.out.o (by omega)).mono ?_
    rintro e w15 ⟨rfl, nd, rfl⟩
    have hE : rdEnd 0 0 = 0 := rfl
    rw [hE]
    clear hE
    have hf15 : Fresh w (w14.drewN nd) := R6.out.fr.drewN nd
    generalize w14.drewN nd = w15 at *
    clear R6 HB Ht1 Ht2 Ht3 Ht4 Ht5 HT hTl hm
    have Hf15 := Lib.hid hf15
    clear hf15
    go_wp2_with fail
    refine (nrNew_any R nr cr rs _ (HR.out.kept Hf15.out (fun _ _ _ _ => id)) HX.out.2 (by omega)).mono ?_
    rintro e w16 ⟨gs, As, cs, rfl, hN, hgn, _, hk⟩
    have s0 : RS w w16 gs As cs rs 0 0 := ⟨hN, Hf15.out.trans hk (fun _ _ h => h), by have := Hf15.out.size; omega⟩
    have hfit := nx_fits gs _ _ As cs rs 0 0 w16 hN
    have hback : (nx rs 0 0).2.2 = 0 → 1 ≤ (nx rs 0 0).2.1 ∧ (nx rs 0 0).2.1 ≤ rs.length ∧ sv (nx rs 0 0).1 = rs.take (nx rs 0 0).2.1 := by
      intro h0
      unfold nx at h0 ⊢
      rw [if_neg (by simp), List.drop_zero] at h0 ⊢
      have := rd_back rs 0 0 (rd 0 0 rs).1 (rd 0 0 rs).2.1 HX.out.2 (by rw [← h0])
      obtain ⟨y, e1, e2, e3, e4, _⟩ := this
      simp only [Nat.zero_add, Nat.sub_zero, Nat.pow_zero, Nat.mul_one] at e1 e2 e3 e4 ⊢
      exact ⟨by omega, e4, by rw [e2, e1]⟩
    have S0 := Lib.hid s0
    clear s0 hN hk hgn Hf15
    go_wp2_with fail
    refine (nrNum_any gs _ _ As cs rs 0 0 _ S0.out.o).mono ?_
    rintro e w17 ⟨rfl, hN, hk⟩
    generalize nx rs 0 0 = q at *
    obtain ⟨y, k, f⟩ := q
    simp only at hN hfit hback ⊢
    have s1 := S0.out.step hN hk
    have S1 := Lib.hid s1
    have Hback := Lib.hid hback
    clear s1 hN hk S0 hback
    go_wp2_with fail
    refine (nrErr_any gs _ _ As cs rs k f _ S1.out.o).mono ?_
    rintro e w18 ⟨rfl, rfl⟩
    by_cases hf0 : f = 0
    · subst hf0
      obtain ⟨hk1, hk2, hsv⟩ := Hback.out rfl
      have hkn : k ≤ nr := by rw [← Hlen.out.2]; exact hk2
      have Hsv := Lib.hid (And.intro hsv hk2)
      clear hsv hk2 Hback
      go_wp2_with fail
      have a0 := WS.start S1.out.fr
      have hk19 : Fresh w17 (w17.alloc (.cells #[.slice none 0 0] 26)) := (Kept.refl _ _).alloc _
      generalize w17.alloc (.cells #[.slice none 0 0] 26) = w19 at *
      refine (nNum_any _ _ _ y _ a0.o hfit (by simp)).mono ?_
      rintro e w20 ⟨rfl, hp⟩
      have hk20 : Fresh w17 w20 := by
        obtain ⟨_, _, _, hk⟩ := hp
        exact hk19.trans hk fun i hi hf => by
          rcases hf with e | e
          · omega
          · cases e
      obtain ⟨va, a1⟩ := a0.step hp
      rw [List.nil_append] at a1
      have s2 := S1.out.new hk20
      obtain ⟨L, hL⟩ : ∃ L, k + L = rs.length := ⟨rs.length - k, by have := Hsv.out.2; omega⟩
      have hsub : wrap64 ((nr : Int) - (L : Int)) = (k : Int) := by have := Hlen.out.2; rw [IntWalk.wrap64_in _ (by omega)]; omega
      have A1 := Lib.hid a1
      have S2 := Lib.hid (And.intro s2 hL)
      have Hsub := Lib.hid hsub
      clear a0 hp a1 s2 hL hsub hk19 hk20 S1
      go_wp2_with fail
      refine (nrLeft_any gs _ _ As cs rs k 0 _ L S2.out.1.o S2.out.2).mono ?_
      rintro e w21 ⟨rfl, nd2, rfl⟩
      have hA2 : WS w (w20.drewN nd2) w17.heap.size va (sv y) := ⟨⟨A1.out.o.blk.drewN nd2, A1.out.o.own.drewN nd2⟩, A1.out.fr.drewN nd2, A1.out.nw⟩
      generalize w20.drewN nd2 = w21 at *
      have A2 := Lib.hid hA2
      clear hA2 A1 S2
      go_wp2_with fail
      rw [Hsub.out]
      have hsl : ∀ W, (Instr.slice 23 (.slice R nr cr) none (some (.int .i64 (k : Int))) none).run Try.prog W = .ok (.slice R k cr) W := fun W =>
        run_slice_to _ _ Try.underlying23 byte_size R nr cr k _ rfl (by omega) W
      have hd1 : decide ((k : Int) < 1) = false := by simp; omega
      have hd1' : ¬ (k : Int) < 1 := by omega
      have hd2 : decide (nr < k) = false := by simp; omega
      have hd2' : ¬ nr < k := by omega
      have hA3 : WS w w21.drew w17.heap.size va (sv y) := ⟨⟨A2.out.o.blk.drew, A2.out.o.own.drew⟩, A2.out.fr.drew, A2.out.nw⟩
      have A3 := Lib.hid hA3
      have h10 := sv_le10 y hfit
      have H10 := Lib.hid h10
      have HRk := Lib.hid (HR.out.take hkn)
      have hby := sv_byte y
      have Hby := Lib.hid hby
      have hdd : decide (sv y = rs.take k) = true := decide_eq_true Hsv.out.1
      have Hdd := Lib.hid hdd
      clear hA3 h10 hby hdd A2
      go_region_held3 (fun _ => True) (first | go_keep | exact True.intro)
        (first
          | (go_at_call 13; refine (nBytes_any _ _ _ _ A3.out.o (by have := H10.out; omega)).mono ?_; rintro e w22 ⟨u, rfl, hown, hnew, hk22⟩; obtain ⟨Ag, cg, rfl, hrg, hblk⟩ := hown.row)
          | (go_at_call 16; refine (hBytes_any Ag R _ _ cg cr (sv y) (rs.take k) _ hrg (HRk.out.kept (A3.out.fr.trans hk22 (fun _ _ h => h)) (fun _ _ _ _ => id)) Hby.out (fun x hx => HX.out.2 x (List.mem_of_mem_take hx))).mono ?_; rintro e w23 ⟨rfl, rfl⟩; rw [Hdd.out]))
      have hf22 : Fresh w w22 := A3.out.fr.trans hk22 (fun _ _ h => h)
      have S2 := Lib.hid hf22
      clear hf22 hown hnew hk22 hrg hblk
      have hzz : (z == z) = true := by simp
      have hvv : ((v : Int) == (v : Int)) = true := by simp
      have hub := unfold_bounds v hv
      go_wp2_with fail
      refine (nFold_any z _ hz1 hz2).mono ?_
      rintro e w' ⟨rfl, rfl⟩
      go_wp2_with fail
      refine (nUnfold_any (fold z) _ hfz).mono ?_
      rintro e w' ⟨rfl, rfl⟩
      rw [unfold_fold]
      go_wp2_with fail
      refine (nUnfold_any v _ hv).mono ?_
      rintro e w' ⟨rfl, rfl⟩
      go_wp2_with fail
      refine (nFold_any (unfold_ v) _ hub.1 hub.2).mono ?_
      rintro e w' ⟨rfl, rfl⟩
      rw [fold_unfold]
      go_wp2_with fail
      go_ret
      exact ⟨rfl, S2.out.toBelow⟩
    · have hb : (f == 0) = false := by simpa using hf0
      have S2 := Lib.hid S1.out.fr
      clear hf0 Hback S1
      go_wp2_with fail
      refine (nFold_any z _ hz1 hz2).mono ?_
      rintro e w' ⟨rfl, rfl⟩
      go_wp2_with fail
      refine (nUnfold_any (fold z) _ hfz).mono ?_
      rintro e w' ⟨rfl, rfl⟩
      rw [unfold_fold]
      have hzz : (z == z) = true := by simp
      have hvv : ((v : Int) == (v : Int)) = true := by simp
      have hub := unfold_bounds v hv
      go_wp2_with fail
      refine (nUnfold_any v _ hv).mono ?_
      rintro e w' ⟨rfl, rfl⟩
      go_wp2_with fail
      refine (nFold_any (unfold_ v) _ hub.1 hub.2).mono ?_
      rintro e w' ⟨rfl, rfl⟩
      rw [fold_unfold]
      go_wp2_with fail
      go_ret
      exact ⟨rfl, S2.out.toBelow⟩
  · have hawake : (3000 : Int) < nb ∨ (¬ (3000 : Int) < nb ∧ (3000 : Int) < nr) := by omega
    clear hsmall
    rcases hawake with hg1 | ⟨hg1, hg2⟩
    all_goals
      go_enter Try.func3, Try.ntmps3
      go_wp2_with fail
      refine (nAwake_any _).mono ?_
      rintro e w' ⟨rfl, hk⟩
      go_wp2
      go_ret
      exact ⟨rfl, hk.toBelow⟩

set_option maxRecDepth 100000 in
theorem lifted (os : Os) (started : os.Started) (H : Type) (enc : TypeId × Value → H) :
    ReturnsInHanded {} Try.checked os 3 .any (Rows.numBackSpec.pre6 enc Try.prog Try.f3 Rows.numBackRow.domain false) (Rows.numBackSpec.post enc Try.prog Try.f3 false true false false) := by
  refine returnsInHanded_of_change (C := Try.checked) Try.own started (by kernel_rfl) Try.func3
    (ChangeSpec.witness6 (enc := enc) (C := Try.checked) false ⟨#[], #[.int .u64 0, .int .i64 0, .slice none 0 0, .slice none 0 0], []⟩ 8 (by kernel_rfl) (by kernel_rfl) (by kernel_rfl) (by kernel_rfl)) ?_
  intro W base args ds gs before hval0 hW hcnd _
  have hval : ∀ (j : Nat) t v, Try.f3.params[j]? = some t → args[j]? = some v → Value.okWide Try.prog W .any base t v := hval0
  have hpost : ∀ W', Below W.heap.size W W' → Rows.numBackSpec.post enc Try.prog Try.f3 false true false false W args (.bool true) W' := fun W' hb =>
    law_post (by kernel_rfl) Try.underlying4 (by kernel_rfl) rfl (fun ds hl => match ds, hl with | [d1, d2, d3, d4], _ => ⟨rfl, rfl, rfl⟩) hW hb
  obtain ⟨p, q, hA0, hV, rfl, hfz, hnd⟩ := hW
  have hA : DataW.TrodAll enc Try.prog W 0 (fun _ => true) true Try.f3.params.toList args.toList ds p := hA0
  rw [Try.params3] at hA hval
  obtain ⟨v0, vs0, d0, ds0, p0, q0, hargs, rfl, rfl, h0, r0⟩ := trodAll_cons hA
  obtain ⟨v1, vs1, d1, ds1, p1, q1, rfl, rfl, rfl, h1, r1⟩ := trodAll_cons r0
  obtain ⟨v2, vs2, d2, ds2, p2, q2, rfl, rfl, rfl, h2, r2⟩ := trodAll_cons r1
  obtain ⟨v3, vs3, d3, ds3, p3, q3, rfl, rfl, rfl, h3, r3⟩ := trodAll_cons r2
  obtain ⟨rfl, rfl, rfl⟩ := trodAll_nil r3
  obtain rfl : args = #[v0, v1, v2, v3] := by cases args; simp_all
  obtain ⟨a0, rfl, rfl, rfl, w0⟩ := open_int Try.underlying22 (hval 0 22 v0 rfl rfl) h0
  obtain ⟨a1, rfl, rfl, rfl, w1⟩ := open_int Try.underlying2 (hval 1 2 v1 rfl rfl) h1
  obtain ⟨B, nb, cb, rfl⟩ := okWide_slice Try.underlying23 (hval 2 23 v2 rfl rfl)
  obtain ⟨fb, hfb⟩ := h2
  obtain ⟨B', nb', cb', xs, eb, _, hb, hxs, _, hnb, _⟩ := open_text Try.underlying23 Try.underlying5 (by kernel_rfl) hfb
  injection eb with e1 e2 e3
  subst e1; subst e2; subst e3
  obtain ⟨R, nr, cr, rfl⟩ := okWide_slice Try.underlying23 (hval 3 23 v3 rfl rfl)
  obtain ⟨fr, hfr⟩ := h3
  obtain ⟨R', nr', cr', rs, er, _, hr, hrs, hcr, hnr, _⟩ := open_text Try.underlying23 Try.underlying5 (by kernel_rfl) hfr
  injection er with e1 e2 e3
  subst e1; subst e2; subst e3
  have hb0 := bounds_u64 w0
  have hb1 := bounds_i64 w1
  obtain ⟨x, rfl⟩ := Int.eq_ofNat_of_zero_le hb0.1
  exact (walk x a1 B nb cb xs R nr cr rs W (by omega) (by omega) (by omega) hb hxs hr hrs hcr hnb hnr).mono fun e W' ⟨he, hb⟩ => ⟨_, he, hpost W' hb⟩

/-- The statement. -/
theorem proved : Rows.NumBackSaid :=
  OpenClaim.holds_of_wide 3 Try.f3 rfl rfl rfl rfl rfl rfl rfl ⟨rfl, rfl, rfl, rfl, rfl⟩ rfl rfl rfl rfl rfl (by kernel_rfl) Try.func3 (by kernel_rfl)
    (of_decide_eq_true (by kernel_rfl)) (by unfold Func.isWrapper; first | (rw [if_pos (by decide +kernel)]; kernel_rfl) | (rw [if_neg (by decide +kernel)]; exact ⟨rfl, rfl⟩))
    (fun os started H enc _ => lifted os started H enc)
#print axioms proved

end Go.Proofs.Ytpilmeklmanjeaa.numBack
