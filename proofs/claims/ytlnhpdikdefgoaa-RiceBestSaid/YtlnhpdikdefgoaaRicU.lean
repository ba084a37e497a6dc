/- The document's Unpack of rice. -/
import Derived.Test.YtlnhpdikdefgoaaRicP
import Derived.Test.YtlnhpdikdefgoaaHelpStr
namespace Go.Proofs.Ytlnhpdikdefgoaa
open Go.RowKit
set_option maxRecDepth 100000

attribute [local go_sem ↓] Go.wp_at_zero Go.wp_at_succ

theorem Try.infoI32 : (Try.prog.info? 21).map (fun i => (i.zero, i.size, i.bytes)) = some (some (.int .i32 0), 1, 4) := by kernel_rfl

/-- What Unpack answers. -/
def UnPR (w w' : World) (e : Ending) (bs : List Int) (n : Nat) : Prop :=
  ∃ u, e = .returned (.tuple #[u, .int .i64 (if (unR bs n).isSome then 0 else 4)]) ∧ NewRow w w' 21 .i32 u ((unR bs n).getD [])

theorem or_join {q k t : Nat} (hq : q < 24) (hk : k ≤ 24) (ht : t < 2 ^ k) : bits .or .u32 ((q : Int) * 2 ^ k % 4294967296) (t : Int) = ((q * 2 ^ k + t : Nat) : Int) := by
  have hz : 2 ^ k ≤ 2 ^ 24 := Nat.pow_le_pow_right (by decide) hk
  have e : ((q : Int) * 2 ^ k) = ((q * 2 ^ k : Nat) : Int) := by simp
  have h1 : q * 2 ^ k ≤ 23 * 2 ^ k := Nat.mul_le_mul_right _ (by omega)
  rw [e]
  have e2 : ((q * 2 ^ k : Nat) : Int) % 4294967296 = ((q * 2 ^ k : Nat) : Int) := by omega
  rw [e2, u32_or_nat _ _ (by omega) (by omega), Nat.mul_comm, Nat.two_pow_add_eq_or_of_lt ht]

/-- The state of the loop: what is read so far, the reader, the list. -/
structure UnS (w1 wr : World) (g : Nat) (t : TypeId) (B : Option Addr) (cB : Nat) (bs : List Int) (a p k : Nat) (out : List Int) (u : Value) : Prop where
  read : rrd bs a = some (p, k, out)
  own : Own wr 21 .i32 u out
  new : ∀ j, u.ownBlock = some j → w1.heap.size ≤ j
  rd : Rd wr g t B cB bs p 0
  kept : Kept (fun j => j = g) w1 wr
  kle : k ≤ 31

set_option maxHeartbeats 3200000 in
/-- Unpack: P10.2. -/
theorem qUnpackR_any (A : Option Addr) (n c : Nat) (xs : List Int) (m : Nat) (w : World) (hr : Row w .u8 A n xs) (hby : ∀ x ∈ xs, 0 ≤ x ∧ x < 256) (hn : n ≤ 100000000) (hm : m ≤ 1048576) :
    Calls Try.prog 20 #[.slice A n c, .int .i64 m] w fun e w' => UnPR w w' e xs m := by
  obtain ⟨i0, hi, hz0, hz1, hz2⟩ := info_parts Try.infoByte
  obtain ⟨i4, hi4, h40, h41, h42⟩ := info_parts Try.infoI32
  have HR := Lib.hid (And.intro hr hby)
  obtain rfl := hr.len
  have m0 : (0 : Int) ≤ (m : Int) := by omega
  have m1 : (m : Int) ≤ 1048576 := by omega
  clear hr hby
  go_enter Try.func20, Try.ntmps20
  go_wp2_with (at_builtin; refine wpList_app _ rfl _ _ 25 rfl 5 i0 .u8 1 Try.underlying25 hi hz0 hz1 hz2 (.slice none 0 0) [] rfl (Own.nil _ _ _) A xs.length c xs rfl HR.out.1 (by unfold maxLen; simp; omega) (by simp; omega) ?_)
  intro v0 w0 hown0 hg0 hat0
  obtain ⟨B, cB, rfl, hrow, hB⟩ := hown0.row
  have hf0 : Fresh w w0 := (Kept.refl _ _).grown hg0 (fun k e _ => by cases e)
  have hrow' : Row w0 .u8 B xs.length xs := hrow
  have hB0 : ∀ b o, B = some ⟨b, o, none⟩ → w.heap.size ≤ b := fun b o e => by
    have e2 := hB b o e
    rcases hat0 with e3 | e3
    · rw [e3] at e2; cases e2
    · rw [e3] at e2; injection e2 with e2; omega
  obtain ⟨w1, hw1⟩ : ∃ w1, w1 = w0.alloc (.cells #[.slice B xs.length cB, .int .i64 0, .int .i64 0] 68) := ⟨_, rfl⟩
  have H1 : Hid (Rd w1 w0.heap.size 68 B cB xs 0 0 ∧ Fresh w w1 ∧ w.heap.size ≤ w0.heap.size) := by
    refine Lib.hid ⟨⟨?_, ?_, ?_, by omega, hn⟩, ?_, hf0.size⟩
    · rw [hw1]; exact Blk.new _ _ _
    · rw [hw1]; exact hrow'.kept ((Kept.refl (fun _ => False) _).alloc _) (fun _ _ _ _ => id)
    · intro j
      by_cases hj : j < xs.length
      · exact HR.out.2 _ (by simp [List.getD, hj])
      · simp [List.getD, List.getElem?_eq_none (Nat.le_of_not_lt hj)]
    · rw [hw1]; exact hf0.alloc _
  have HB := Lib.hid hB0
  clear hown0 hg0 hat0 hrow hB hrow' hf0 hB0
  go_wp2_with fail
  rw [← hw1]
  go_loopw [9, 8, 7] (fun i x u wr => ∃ (a p k : Nat) (out : List Int), a ≤ m ∧ i = .int .i64 a ∧ x = .int .i64 k ∧ UnS w1 wr w0.heap.size 68 B cB xs a p k out u) (fun i _ _ _ => (m - intOf i).toNat)
  case atStart => exact ⟨0, 0, 0, [], by omega, rfl, rfl, ⟨rfl, Own.nil _ _ _, fun j e => (by cases e), H1.out.1, Kept.refl _ _, by omega⟩⟩
  case round =>
    obtain ⟨a, p, k, out, ha, rfl, rfl, hs⟩ := hrel
    by_cases hlt : a < m
    · obtain ⟨k1, p1, e1, hh⟩ : ∃ k1 p1 e1, rhead xs a p k = (k1, p1, e1) := ⟨_, _, _, rfl⟩
      have ho : rone xs a p k = rnum xs p1 e1 k1 := by unfold rone; rw [hh]
      have hk31 : k1 ≤ 31 := by
        unfold rhead at hh
        split at hh
        · have := sBits_lt xs p 0 5
          rw [hh] at this
          simp only [] at this
          omega
        · injection hh with e _
          rw [← e]
          exact hs.kle
      have a0 : (a : Int) < (m : Int) := by omega
      have HN : Hid ((∀ tv p3, rnum xs p1 e1 k1 = (tv, p3, 0) → rrd xs (a + 1) = some (p3, k1, out ++ [unfold_ tv])) ∧ (∀ tv p3 e3, rnum xs p1 e1 k1 = (tv, p3, e3) → e3 ≠ 0 → unR xs m = none) ∧ ∀ j, u7.ownBlock = some j → w1.heap.size ≤ j) :=
        Lib.hid ⟨fun tv p3 e => by
          rw [← ho] at e
          have := rrd_some hs.read (by rw [e])
          rw [this, e, hh], fun tv p3 e3 e h3 => by
          rw [← ho] at e
          exact unR_none (rrd_stop hs.read (by rw [e]; exact h3)) (by omega), hs.new⟩
      have hol : out.length = a := rrd_length _ _ _ _ _ hs.read
      obtain ⟨kk, hkk⟩ : ∃ kk, kk = min k1 24 := ⟨_, rfl⟩
      have hk2 : min (k1 : Int) 24 = (kk : Int) := by omega
      have kk0 : (0 : Int) ≤ (kk : Int) := by omega
      have kk1 : (kk : Int) ≤ 24 := by omega
      have HK := Lib.hid (And.intro (show wBitsN (kk : Int) = kk from by unfold wBitsN clamp; omega) (And.intro (show wBitsN 32 = 32 from by decide) hkk))
      clear hkk
      have HS := Lib.hid hs
      obtain ⟨w2, hw2⟩ : ∃ w2 : World, w2 = wr := ⟨_, rfl⟩
      by_cases h64 : a % 64 = 0
      focus
        have hb64 : ((a : Int) % 64 == 0) = true := by simp; omega
        have hS : sBits xs p 0 5 = (k1, p1, e1) := by rw [← hh]; unfold rhead; rw [if_pos h64]
        have HS5 := Lib.hid hS
        clear hh ho hs hS hw2 w2
        go_wp2_with fail
        refine (qBits_any w0.heap.size B cB xs p 0 5 wr HS.out.rd).mono ?_
        rintro e w2 ⟨rfl, hp2⟩
        rw [show wBitsN 5 = 5 from by decide, HS5.out] at hp2
        rw [show wBitsN 5 = 5 from by decide, HS5.out]
        have HX := Lib.hid (And.intro hp2.1 (And.intro (HS.out.kept.trans hp2.2 fun _ _ e => e) (HS.out.own.kept hp2.2 fun j e e2 => by have := HS.out.new j e; have := H1.out.1.blk.lt; omega)))
        clear hp2 HS5 HS
      rotate_left
      focus
        have hb64 : ((a : Int) % 64 == 0) = false := by simp; omega
        have hS : (k, p, (0 : Int)) = (k1, p1, e1) := by rw [← hh]; unfold rhead; rw [if_neg h64]
        injection hS with hk hS
        injection hS with hp he
        have hrd := hs.rd
        rw [hp, he, ← hw2] at hrd
        have HX := Lib.hid (And.intro hrd (And.intro (hw2 ▸ hs.kept) (hw2 ▸ hs.own)))
        clear hh ho hs HS hrd hp he
        rw [← hw2]
        clear hw2
        subst k
      all_goals
        go_wp2_with fail
        have hle := HX.out.1.le
        refine (qUnary_any w0.heap.size B cB xs p1 (8 * xs.length - p1) 24 e1 24 w2 HX.out.1 (by omega) rfl (by omega)).mono ?_
        rintro e w3 ⟨rfl, hp3⟩
        obtain ⟨q, p2, e2, hsu⟩ : ∃ q p2 e2, sUnary xs p1 e1 24 (8 * xs.length - p1) = (q, p2, e2) := ⟨_, _, _, rfl⟩
        have hq24 : q ≤ 24 := by have := sUnary_le xs p1 e1 24 (8 * xs.length - p1); rw [hsu] at this; exact this
        rw [hsu] at hp3
        rw [hsu]
        have Hsu := Lib.hid hsu
        have HY := Lib.hid (And.intro hp3.1 (And.intro (HX.out.2.1.trans hp3.2 fun _ _ e => e) (HX.out.2.2.kept hp3.2 fun j e e2 => by have := HN.out.2.2 j e; have := H1.out.1.blk.lt; omega)))
        clear hp3 HX hsu hle
        simp only [] at HY ⊢
        by_cases hq : q < 24
        focus
          have q0 : (q : Int) < 24 := by omega
          go_wp2_with fail
          refine (qBits_any w0.heap.size B cB xs p2 e2 (kk : Int) w3 HY.out.1).mono ?_
          rintro e w4 ⟨rfl, hp4⟩
          obtain ⟨tv, p3, e3, hsb⟩ : ∃ tv p3 e3, sBits xs p2 e2 kk = (tv, p3, e3) := ⟨_, _, _, rfl⟩
          have htv : tv < 2 ^ kk := by have := sBits_lt xs p2 e2 kk; rw [hsb] at this; exact this
          have hrn : rnum xs p1 e1 k1 = (q * 2 ^ kk + tv, p3, e3) := by
            unfold rnum
            rw [Hsu.out]
            simp only [if_pos hq, ← HK.out.2.2, hsb]
          have hor := or_join hq (show kk ≤ 24 by omega) htv
          obtain ⟨uv, huv⟩ : ∃ uv, uv = q * 2 ^ kk + tv := ⟨_, rfl⟩
          rw [← huv] at hor hrn
          rw [HK.out.1, hsb] at hp4 ⊢
          simp only [] at hp4 ⊢
          clear huv htv
          have c2 := hp4.1.blk.cell 2
          simp only [List.getElem?_toArray, List.getElem?_cons_succ, List.getElem?_cons_zero] at c2
          have HZ := Lib.hid (And.intro hp4.1 (And.intro (HY.out.2.1.trans hp4.2 fun _ _ e => e) (HY.out.2.2.kept hp4.2 fun j e e2 => by have := HN.out.2.2 j e; have := H1.out.1.blk.lt; omega)))
          have HRn := Lib.hid hrn
          clear hp4 HY hrn Hsu hsb
        rotate_left
        focus
          have q0 : ¬ (q : Int) < 24 := by omega
          go_wp2_with fail
          refine (qBits_any w0.heap.size B cB xs p2 e2 32 w3 HY.out.1).mono ?_
          rintro e w4 ⟨rfl, hp4⟩
          obtain ⟨uv, p3, e3, hsb⟩ : ∃ tv p3 e3, sBits xs p2 e2 32 = (tv, p3, e3) := ⟨_, _, _, rfl⟩
          have hrn : rnum xs p1 e1 k1 = (uv, p3, e3) := by
            unfold rnum
            rw [Hsu.out]
            simp only [if_neg hq, hsb]
          rw [HK.out.2.1, hsb] at hp4 ⊢
          simp only [] at hp4 ⊢
          have c2 := hp4.1.blk.cell 2
          simp only [List.getElem?_toArray, List.getElem?_cons_succ, List.getElem?_cons_zero] at c2
          have HZ := Lib.hid (And.intro hp4.1 (And.intro (HY.out.2.1.trans hp4.2 fun _ _ e => e) (HY.out.2.2.kept hp4.2 fun j e e2 => by have := HN.out.2.2 j e; have := H1.out.1.blk.lt; omega)))
          have HRn := Lib.hid hrn
          clear hp4 HY hrn Hsu hsb
        all_goals
          have hu32 : uv < 4294967296 := by have := rnum_lt xs p1 e1 k1; rw [HRn.out] at this; exact this
          by_cases he : e3 = 0
          · subst he
            have heb : ((0 : Int) != 0) = false := rfl
            have hub := unfold_32 hu32
            have HU := Lib.hid (qUnfold_any uv w4 (by omega))
            have HE := Lib.hid (HN.out.1 uv p3 HRn.out)
            generalize unfold_ uv = z at *
            have z0 := hub.1
            have z1 := hub.2
            clear hub
            go_wp2_with fail
            refine HU.out.mono ?_
            rintro e w5 ⟨rfl, rfl⟩
            clear HU
            go_wp2_with (at_builtin; refine wpList_app _ rfl (.tmp 55) (.tmp 60) 22 rfl 21 i4 .i32 4 Try.underlying22 hi4 h40 h41 h42 _ out rfl (HZ.out.2.2.alloc _) _ 1 1 [z] rfl (Row.one _ _ _ _) (by unfold maxLen; omega) (by omega) ?_)
            intro v9 w9 ho9 hg9 hat9
            have hk9 : Kept (fun k => u7.ownBlock = some k) w4 w9 := ((Kept.refl (fun k => u7.ownBlock = some k) w4).alloc _).grown hg9 (fun k e _ => e)
            have HS9 : Hid (UnS w1 w9 w0.heap.size 68 B cB xs (a + 1) p3 k1 (out ++ [z]) v9) := by
              have hgl := H1.out.1.blk.lt
              refine Lib.hid ⟨HE.out, ho9, fun j e => ?_, HZ.out.1.kept hk9 (fun e => ?_) (fun b o e hl e2 => ?_), ?_, hk31⟩
              · rcases hat9 with e2 | e2
                · exact HN.out.2.2 j (e2 ▸ e)
                · rw [e2] at e
                  injection e with e
                  have := HZ.out.2.1.size
                  omega
              · have := HN.out.2.2 _ e; omega
              · obtain ⟨b', o', e', hb', _⟩ := H1.out.1.row.at_ 0 hl
                rw [e] at e'
                injection e' with e'
                injection e' with e1 _
                subst e1
                have := HN.out.2.2 _ e2; omega
              · exact HZ.out.2.1.trans hk9 fun i hi e => by have := HN.out.2.2 i e; omega
            clear ho9 hg9 hat9 hk9 HZ HE HN HRn
            go_wp2_with fail
            go_roundw
            case rel => exact ⟨a + 1, p3, k1, out ++ [z], by omega, by go_num, rfl, HS9.out⟩
            case measure => simp [intOf]; omega
          · have heb : (e3 != 0) = true := by simp [he]
            have HE := Lib.hid (HN.out.2.1 uv p3 e3 HRn.out he)
            clear HN HRn he
            go_wp2_with fail
            refine bodyPost_ret (results_tmp2 rfl _ _ _) rfl ?_
            unfold UnPR
            rw [HE.out]
            exact ⟨_, rfl, Own.nil _ _ _, fun k e => (by cases e), H1.out.2.1.trans HZ.out.2.1 fun i hi e => by have := H1.out.2.2; omega⟩
    · obtain rfl : a = m := by omega
      have HS := Lib.hid hs
      clear hs
      obtain ⟨Ao, co, rfl, hro, _⟩ := HS.out.own.row
      have hol : out.length ≤ 1048576 := by rw [rrd_length _ _ _ _ _ HS.out.read]; exact hm
      have h32 := rrd_32 _ _ _ _ _ HS.out.read
      have hcap := HS.out.own.cap
      have HQ := Lib.hid (qPackR_any Ao out.length co out wr hro h32 hol hcap)
      have hun := unR_some HS.out.read
      have HU := Lib.hid hun
      have a0 : ¬ (a : Int) < (a : Int) := by omega
      clear hro h32 hun hol hcap
      go_wp2_with fail
      refine HQ.out.mono ?_
      rintro e w7 ⟨u, rfl, hu, hun, hk7⟩
      obtain ⟨Au, cu, rfl, hru, _⟩ := hu.row
      have hf1 : Fresh w wr := H1.out.2.1.trans HS.out.kept fun i hi e => by have := H1.out.2.2; omega
      have hf7 := hf1.trans hk7 (fun _ _ h => h)
      have HE := Lib.hid (hBytes_any Au A _ xs.length cu c _ xs w7 hru (HR.out.1.kept hf7 (fun _ _ _ _ => id)) (fun x hx => by
        obtain ⟨i, hi, rfl⟩ := List.getElem_of_mem hx
        have := (pk_bits (rall out)).byte i
        simpa [List.getD, hi] using this) HR.out.2)
      have H7 := Lib.hid (And.intro (HS.out.own.kept hk7 (fun _ _ => id)) (And.intro (fun k e => Nat.le_trans H1.out.2.1.size (HS.out.new k e)) hf7))
      clear hu hun hk7 hru hf1 hf7 HQ HS
      generalize (pk (rall out)).length = lu at *
      go_wp2_with fail
      by_cases hok : pk (rall out) = xs
      · rw [decide_eq_true hok] at HE
        rw [if_pos hok] at HU
        clear hok
        refine HE.out.mono ?_
        rintro e8 w8 ⟨rfl, rfl⟩
        clear HE
        go_wp2_with fail
        refine bodyPost_ret (results_tmp2 rfl _ _ _) rfl ?_
        unfold UnPR
        rw [HU.out]
        exact ⟨_, rfl, H7.out.1, H7.out.2.1, H7.out.2.2⟩
      · rw [decide_eq_false hok] at HE
        rw [if_neg hok] at HU
        clear hok
        refine HE.out.mono ?_
        rintro e8 w8 ⟨rfl, rfl⟩
        clear HE
        go_wp2_with fail
        refine bodyPost_ret (results_tmp2 rfl _ _ _) rfl ?_
        unfold UnPR
        rw [HU.out]
        exact ⟨_, rfl, Own.nil _ _ _, fun k e => (by cases e), H7.out.2.2⟩

theorem qUnpackR_not (A : Option Addr) (n c : Nat) (m : Int) (w : World) (h : m < 0 ∨ 1048576 < m) :
    Calls Try.prog 20 #[.slice A n c, .int .i64 m] w fun e w' => e = .returned (.tuple #[.slice none 0 0, .int .i64 (if m < 0 then 1 else 5)]) ∧ w = w' := by
  by_cases h1 : m < 0
  · rw [if_pos h1]
    go_enter Try.func20, Try.ntmps20
    go_wp2_with fail
    refine bodyPost_ret (results_tmp2 rfl _ _ _) rfl ?_
    exact ⟨rfl, rfl⟩
  · rw [if_neg h1]
    have h2 : 1048576 < m := by omega
    go_enter Try.func20, Try.ntmps20
    go_wp2_with fail
    refine bodyPost_ret (results_tmp2 rfl _ _ _) rfl ?_
    exact ⟨rfl, rfl⟩

end Go.Proofs.Ytlnhpdikdefgoaa
