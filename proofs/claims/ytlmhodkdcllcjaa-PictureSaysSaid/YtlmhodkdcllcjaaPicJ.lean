/- The code's Pnm and Parse, the document's Parse. -/
import Derived.Test.YtlmhodkdcllcjaaPicI
import Derived.Test.YtlmhodkdcllcjaaPicE
namespace Go.Proofs.Ytlmhodkdcllcjaa
open Go.RowKit
set_option maxRecDepth 100000

attribute [local go_sem ↓] Go.wp_at_zero Go.wp_at_succ

/-- How many bytes a pixel has; 0, if there is no head. -/
def plnQ (l : List Int) : Nat := if hdP l then plnP l else 0
def beg (l : List Int) : Nat := if 2 ≤ l.length then 2 else l.length
theorem beg_le (l : List Int) : beg l ≤ l.length := by unfold beg; split <;> omega

section
variable (g R : Nat) (A : Option Addr) (c : Nat) (l : List Int)

set_option maxHeartbeats 1600000 in
theorem cPlanes_any (w : World) (h0 : Blk w g 67 #[.pointer (some ⟨R, 0, none⟩), .int .u8 0]) (h1 : NRd w R 73 [] A c l 0 0) :
    Calls Try.prog 39 #[.pointer (some ⟨g, 0, none⟩)] w fun e w' => e = .returned (.int .u64 (plnQ l : Nat)) ∧ Blk w' g 67 #[.pointer (some ⟨R, 0, none⟩), .int .u8 0] ∧
      (∃ p err, NRd w' R 73 [] A c l p err ∧ (err = 0 → p = beg l) ∧ (err ≠ 0 → beg l = l.length)) ∧ Kept (PFt g R) w w' := by
  have hne := h0.ne_ h1.blk (by decide)
  have HL := Lib.hid (nrRaw_any R _ [] A c l 0 0 w 2 (by omega) h1)
  rw [show (2 : Int).toNat = 2 from rfl] at HL
  have h8 := tk_byte l 0 0 2 h1.byte
  have hp : ((tk l 0 0 2).2.2 = 0 → (tk l 0 0 2).2.1 = beg l) ∧ ((tk l 0 0 2).2.2 ≠ 0 → beg l = l.length) := by
    unfold beg
    by_cases h2 : 2 ≤ l.length
    · rw [tk_in (show 0 + 2 ≤ l.length from h2), if_pos h2]
      exact ⟨fun _ => rfl, fun h => absurd rfl h⟩
    · have ht : tk l 0 0 2 = ([], 0, 3) := by unfold tk; rw [if_neg (by simp), if_neg (by omega)]
      rw [ht, if_neg h2]
      exact ⟨fun h => absurd h (by simp), fun _ => rfl⟩
  have hq : plnQ l = if (tk l 0 0 2).1 = [((80 : Nat) : Int), ((53 : Nat) : Int)] then 1 else if (tk l 0 0 2).1 = [((80 : Nat) : Int), ((54 : Nat) : Int)] then 3 else 0 := by
    unfold plnQ
    by_cases h2 : 2 ≤ l.length
    · rw [tk_in (show 0 + 2 ≤ l.length from h2)]
      simp only [slc_two h2]
      rw [show (((80 : Nat) : Int)) = 80 from rfl, show (((53 : Nat) : Int)) = 53 from rfl, show (((54 : Nat) : Int)) = 54 from rfl]
      by_cases a1 : l.getD 0 0 = 80
      · by_cases a2 : l.getD 1 0 = 53
        · rw [if_pos (show hdP l from ⟨h2, a1, .inl a2⟩), if_pos ⟨a1, a2⟩]
          unfold plnP
          rw [if_neg (by omega)]
        · by_cases a3 : l.getD 1 0 = 54
          · rw [if_pos (show hdP l from ⟨h2, a1, .inr a3⟩), if_neg (fun h => a2 h.2), if_pos ⟨a1, a3⟩]
            unfold plnP
            rw [if_pos a3]
          · rw [if_neg (fun h : hdP l => h.2.2.elim a2 a3), if_neg (fun h => a2 h.2), if_neg (fun h => a3 h.2)]
      · rw [if_neg (fun h : hdP l => a1 h.2.1), if_neg (fun h => a1 h.1), if_neg (fun h => a1 h.1)]
    · have ht : tk l 0 0 2 = ([], 0, 3) := by unfold tk; rw [if_neg (by simp), if_neg (by omega)]
      rw [ht, if_neg (fun h : hdP l => h2 h.1)]
      rfl
  have H0 := Lib.hid (And.intro h0 (And.intro hne hp))
  have c0 : w.cell? ⟨g, 0, none⟩ = some (.pointer (some ⟨R, 0, none⟩)) := (h0.cell 0).trans rfl
  obtain ⟨r, hr⟩ : ∃ r, r = tk l 0 0 2 := ⟨_, rfl⟩
  rw [← hr] at HL H0 hq h8
  have e5 := is_two 80 53 (by omega) (by omega) [80, 53] (by rw [Lib.strOfNums_toList]; decide) h8
  have e6 := is_two 80 54 (by omega) (by omega) [80, 54] (by rw [Lib.strOfNums_toList]; decide) h8
  rw [hq]
  clear h0 h1 hne hp hq hr h8
  have fin : ∀ (v : Nat) (w1 : World), NRd w1 R 73 [] A c l r.2.1 r.2.2 → Mine R w w1 → Blk w1 g 67 #[.pointer (some ⟨R, 0, none⟩), .int .u8 0] ∧ (∃ p err, NRd w1 R 73 [] A c l p err ∧ (err = 0 → p = beg l) ∧ (err ≠ 0 → beg l = l.length)) ∧ Kept (PFt g R) w w1 := fun v w1 h1 hk =>
    ⟨H0.out.1.kept hk H0.out.2.1, ⟨_, _, h1, H0.out.2.2⟩, hk.mono fun _ _ e => .inr e⟩
  have FIN := Lib.hid fin
  clear fin
  by_cases a5 : r.1 = [((80 : Nat) : Int), ((53 : Nat) : Int)]
  · rw [decide_eq_true a5] at e5
    rw [if_pos a5]
    clear a5 e6
    go_enter Try.func39, Try.ntmps39
    go_wp2_with fail
    refine HL.out.mono ?_
    rintro e w1 ⟨u, rfl, ho, _, h1, hk⟩
    obtain ⟨A', d, rfl, hrow, _⟩ := ho.row
    have s1 := row_string hrow d
    have H1 := Lib.hid (FIN.out 0 w1 h1 hk)
    clear ho h1 hk hrow HL c0
    go_wp2_with fail
    go_ret
    exact ⟨rfl, H1.out⟩
  · rw [decide_eq_false a5] at e5
    rw [if_neg a5]
    clear a5
    by_cases a6 : r.1 = [((80 : Nat) : Int), ((54 : Nat) : Int)]
    · rw [decide_eq_true a6] at e6
      rw [if_pos a6]
      clear a6
      go_enter Try.func39, Try.ntmps39
      go_wp2_with fail
      refine HL.out.mono ?_
      rintro e w1 ⟨u, rfl, ho, _, h1, hk⟩
      obtain ⟨A', d, rfl, hrow, _⟩ := ho.row
      have s1 := row_string hrow d
      have H1 := Lib.hid (FIN.out 0 w1 h1 hk)
      clear ho h1 hk hrow HL c0
      go_wp2_with fail
      go_ret
      exact ⟨rfl, H1.out⟩
    · rw [decide_eq_false a6] at e6
      rw [if_neg a6]
      clear a6
      go_enter Try.func39, Try.ntmps39
      go_wp2_with fail
      refine HL.out.mono ?_
      rintro e w1 ⟨u, rfl, ho, _, h1, hk⟩
      obtain ⟨A', d, rfl, hrow, _⟩ := ho.row
      have s1 := row_string hrow d
      have H1 := Lib.hid (FIN.out 0 w1 h1 hk)
      clear ho h1 hk hrow HL c0
      go_wp2_with fail
      go_ret
      exact ⟨rfl, H1.out⟩

/-- Amid a head: what is to be told, and the parser. -/
structure PS (w : World) (g R : Nat) (A : Option Addr) (c : Nat) (l : List Int) (i : Nat) (W : World) : Prop where
  res : Blk W w.heap.size 38 #[.int .u64 0, .int .u64 0, .int .u64 0, .int .u64 0, .int .u64 0]
  pa : PA W g R A c l i
  fr : Kept (PFt g R) w W
  lg : g < w.heap.size
  lr : R < w.heap.size
theorem PS.ne_ {w : World} {g R : Nat} (lg : g < w.heap.size) (lr : R < w.heap.size) : ¬ PFt g R w.heap.size := fun e => by
  rcases e with e | e <;> omega
theorem PS.step {w W V : World} {g R : Nat} {A : Option Addr} {c : Nat} {l : List Int} {i j : Nat} (h : PS w g R A c l i W) (hp : PP g R A c l j W V) : PS w g R A c l j V :=
  ⟨h.res.kept hp.2 (PS.ne_ h.lg h.lr), hp.1, h.fr.trans hp.2 fun _ _ e => e, h.lg, h.lr⟩

set_option maxHeartbeats 6400000 in
theorem cPnmHead_any (w : World) (h0 : Blk w g 67 #[.pointer (some ⟨R, 0, none⟩), .int .u8 0]) (h1 : NRd w R 73 [] A c l 0 0) (hf : ∀ b o, A = some ⟨b, o, none⟩ → 0 < l.length → b ≠ g) (hn : l.length ≤ 1000000000) :
    Calls Try.prog 24 #[.pointer (some ⟨g, 0, none⟩)] w fun e w' => e = .returned (hval (pnmH l)) ∧ Kept (PFt g R) w w' := by
  obtain ⟨n1, hn1⟩ : ∃ n1, n1 = cnm l (beg l) := ⟨_, rfl⟩
  obtain ⟨n2, hn2⟩ : ∃ n2, n2 = cnm l n1.2 := ⟨_, rfl⟩
  obtain ⟨n3, hn3⟩ : ∃ n3, n3 = cnm l n2.2 := ⟨_, rfl⟩
  obtain ⟨pl, hpl⟩ : ∃ pl, pl = plnQ l := ⟨_, rfl⟩
  obtain ⟨n, hnn⟩ : ∃ n, n = l.length := ⟨_, rfl⟩
  have Hn := Lib.hid (And.intro hnn hn)
  have hres : Blk (w.alloc (.cells #[.int .u64 0, .int .u64 0, .int .u64 0, .int .u64 0, .int .u64 0] 38)) w.heap.size 38 #[.int .u64 0, .int .u64 0, .int .u64 0, .int .u64 0, .int .u64 0] := Blk.new _ _ _
  have hb0 := h0.alloc (.cells #[.int .u64 0, .int .u64 0, .int .u64 0, .int .u64 0, .int .u64 0] 38)
  have hr0 := h1.kept ((Kept.refl (fun _ => False) w).alloc (.cells #[.int .u64 0, .int .u64 0, .int .u64 0, .int .u64 0, .int .u64 0] 38)) id (fun _ _ _ _ => id)
  have hfr : Kept (PFt g R) w (w.alloc (.cells #[.int .u64 0, .int .u64 0, .int .u64 0, .int .u64 0, .int .u64 0] 38)) := (Kept.refl _ _).alloc _
  have HG := Lib.hid (And.intro h0.lt h1.blk.lt)
  have HF := Lib.hid hf
  have HQ : Hid (pnmH l = if pl ≠ 0 ∧ (1 ≤ n3.1 ∧ n3.1 ≤ 255) ∧ blk (l.getD n3.2 0) then some (n1.1, n2.1, pl, n1.1 * pl, n3.2 + 1) else none) := Lib.hid (by
    unfold pnmH
    by_cases hh : hdP l
    · have hb : beg l = 2 := if_pos hh.1
      have hp : pl = plnP l := by rw [hpl]; exact if_pos hh
      have hz : pl ≠ 0 := by rw [hp]; unfold plnP; split <;> decide
      rw [hn3, hn2, hn1, hb, ← hp]
      by_cases hc : (1 ≤ (cnm l (cnm l (cnm l 2).2).2).1 ∧ (cnm l (cnm l (cnm l 2).2).2).1 ≤ 255) ∧ blk (l.getD (cnm l (cnm l (cnm l 2).2).2).2 0)
      · rw [if_pos ⟨hh, hc⟩, if_pos ⟨hz, hc⟩]
      · rw [if_neg (fun h => hc h.2), if_neg (fun h => hc h.2)]
    · have hp : pl = 0 := by rw [hpl]; exact if_neg hh
      rw [if_neg (fun h => hh h.1), if_neg (fun h => h.1 hp)])
  have HB : Hid (n1.1 < 100000 ∧ pl ≤ 3) := Lib.hid ⟨by rw [hn1]; exact cnm_lt l _, by rw [hpl]; unfold plnQ plnP; split <;> (try split) <;> omega⟩
  have HC := Lib.hid (And.intro hn1 (And.intro hn2 (And.intro hn3 hpl)))
  have c0 : (w.alloc (.cells #[.int .u64 0, .int .u64 0, .int .u64 0, .int .u64 0, .int .u64 0] 38)).cell? ⟨g, 0, none⟩ = some (.pointer (some ⟨R, 0, none⟩)) := (hb0.cell 0).trans rfl
  generalize hW0 : w.alloc (.cells #[.int .u64 0, .int .u64 0, .int .u64 0, .int .u64 0, .int .u64 0] 38) = W0 at *
  have H0 := Lib.hid (And.intro hres (And.intro hb0 (And.intro hr0 hfr)))
  clear h0 h1 hf hn hn1 hn2 hn3 hpl hnn hres hb0 hr0 hfr
  go_enter Try.func24, Try.ntmps24
  go_wp2_with fail
  clear hW0
  refine (nrLeft_any R _ [] A c l 0 0 W0 n H0.out.2.2.1 (by rw [Hn.out.1, Nat.zero_add])).mono ?_
  rintro e w1 ⟨rfl, k1, hk1⟩
  have H1 : Hid (Blk w1 w.heap.size 38 #[.int .u64 0, .int .u64 0, .int .u64 0, .int .u64 0, .int .u64 0] ∧ Blk w1 g 67 #[.pointer (some ⟨R, 0, none⟩), .int .u8 0] ∧ NRd w1 R 73 [] A c l 0 0 ∧ Kept (PFt g R) w w1) := Lib.hid (by
    rw [hk1]
    exact ⟨H0.out.1.drewN _, H0.out.2.1.drewN _, H0.out.2.2.1.drewN _, H0.out.2.2.2.drewN _⟩)
  clear hk1 c0 H0
  go_wp2_with fail
  refine (cPlanes_any g R A c l w1 H1.out.2.1 H1.out.2.2.1).mono ?_
  rw [← HC.out.2.2.2]
  rintro e w2 ⟨rfl, hb2, ⟨p2, r2, hr2, hp2⟩, hk2⟩
  have H2 := Lib.hid (And.intro (H1.out.1.kept hk2 (PS.ne_ HG.out.1 HG.out.2)) (And.intro hb2 (And.intro hr2 (And.intro hp2 (H1.out.2.2.2.trans hk2 fun _ _ e => e)))))
  clear hb2 hr2 hp2 hk2 H1
  go_wp2_with fail
  refine (cStep_from g R A c l (beg l) p2 r2 0 w2 (beg_le l) H2.out.2.1 H2.out.2.2.1 HF.out H2.out.2.2.2.1).mono ?_
  rintro e w3 ⟨rfl, hp3, hk3⟩
  have H3 : Hid (PS w g R A c l (beg l) w3) := Lib.hid ⟨H2.out.1.kept hk3 (PS.ne_ HG.out.1 HG.out.2), hp3, H2.out.2.2.2.2.trans hk3 fun _ _ e => e, HG.out.1, HG.out.2⟩
  clear hp3 hk3 H2
  go_wp2_with fail
  refine (cNumber_any g R A c l (beg l) w3 H3.out.pa).mono ?_
  rw [← HC.out.1]
  rintro e w4 ⟨rfl, hp⟩
  have H4 := Lib.hid (H3.out.step hp)
  clear hp H3
  go_wp2_with fail
  refine (cNumber_any g R A c l n1.2 w4 H4.out.pa).mono ?_
  rw [← HC.out.2.1]
  rintro e w5 ⟨rfl, hp⟩
  have H5 := Lib.hid (H4.out.step hp)
  clear hp H4
  go_wp2_with fail
  refine (cNumber_any g R A c l n2.2 w5 H5.out.pa).mono ?_
  rw [← HC.out.2.2.1]
  rintro e w6 ⟨rfl, hp⟩
  have H6 := Lib.hid (H5.out.step hp)
  clear hp H5
  obtain ⟨a1, i1⟩ := n1
  obtain ⟨a2, i2⟩ := n2
  obtain ⟨a3, i3⟩ := n3
  simp only [] at HQ HB H6 ⊢
  clear HC
  by_cases g1 : pl = 0
  · have g1' : ((pl : Int) == 0) = true := by simp; omega
    have HN : Hid (pnmH l = none) := Lib.hid (by rw [HQ.out, if_neg (fun h => h.1 g1)])
    have rz0 : w6.cell? ⟨w.heap.size, 0, none⟩ = some (.int .u64 0) := (H6.out.res.cell 0).trans rfl
    have rzf0 : w6.frozen? ⟨w.heap.size, 0, none⟩ = false := H6.out.res.frozen 0
    have rz1 : w6.cell? ⟨w.heap.size, 1, none⟩ = some (.int .u64 0) := (H6.out.res.cell 1).trans rfl
    have rzf1 : w6.frozen? ⟨w.heap.size, 1, none⟩ = false := H6.out.res.frozen 1
    have rz2 : w6.cell? ⟨w.heap.size, 2, none⟩ = some (.int .u64 0) := (H6.out.res.cell 2).trans rfl
    have rzf2 : w6.frozen? ⟨w.heap.size, 2, none⟩ = false := H6.out.res.frozen 2
    have rz3 : w6.cell? ⟨w.heap.size, 3, none⟩ = some (.int .u64 0) := (H6.out.res.cell 3).trans rfl
    have rzf3 : w6.frozen? ⟨w.heap.size, 3, none⟩ = false := H6.out.res.frozen 3
    have rz4 : w6.cell? ⟨w.heap.size, 4, none⟩ = some (.int .u64 0) := (H6.out.res.cell 4).trans rfl
    have rzf4 : w6.frozen? ⟨w.heap.size, 4, none⟩ = false := H6.out.res.frozen 4
    go_wp2_with fail
    refine bodyPost_ret (v := hval none) (by simp [results, Try.f24, go_sem, hval, rz0, rz1, rz2, rz3, rz4]) rfl ?_
    exact ⟨by rw [HN.out], set5k H6.out.fr _ _ _ _ _⟩
  · have g1' : ((pl : Int) == 0) = false := by simp; omega
    by_cases g2 : 1 ≤ a3
    · have g2' : ¬ (a3 : Int) < 1 := by omega
      by_cases g3 : a3 ≤ 255
      · have g3' : ¬ (255 : Int) < (a3 : Int) := by omega
        have c1 := H6.out.pa.c1
        have hx : 0 ≤ l.getD i3 0 ∧ l.getD i3 0 < 256 := by
          rcases Nat.lt_or_ge i3 l.length with h2 | h2
          · exact H6.out.pa.b8 _ (getD_mem h2)
          · rw [getD_past h2]; omega
        have HD := Lib.hid (cBlank_any (l.getD i3 0) w6 hx)
        have HLT : Hid (blk (l.getD i3 0) → i3 < l.length) := Lib.hid blk_lt
        generalize l.getD i3 0 = x at *
        clear hx
        by_cases g4 : blk x
        · rw [decide_eq_true g4] at HD
          have HR : Hid (pnmH l = some (a1, a2, pl, a1 * pl, i3 + 1)) := Lib.hid (by rw [HQ.out, if_pos ⟨g1, ⟨g2, g3⟩, g4⟩])
          have hi := HLT.out g4
          obtain ⟨p, err, hrd, hp, _⟩ := H6.out.pa.rd
          obtain ⟨rfl, rfl⟩ := hp hi
          obtain ⟨L, hL⟩ : ∃ L, i3 + 1 + L = n := ⟨n - (i3 + 1), by rw [Hn.out.1]; omega⟩
          have HL := Lib.hid (nrLeft_any R _ [] A c l (i3 + 1) 0 w6 L hrd (by rw [hL, Hn.out.1]))
          have hn := Hn.out.2
          rw [← Hn.out.1] at hn
          obtain ⟨st, hst⟩ : ∃ st, st = a1 * pl := ⟨_, rfl⟩
          obtain ⟨f, hfd⟩ : ∃ f, f = i3 + 1 := ⟨_, rfl⟩
          rw [← hst, ← hfd] at HR
          have e1 : (a1 : Int) * (pl : Int) = (st : Int) := by rw [hst]; simp
          have e2 : (n : Int) - (L : Int) = (f : Int) := by omega
          have r1 : (st : Int) ≤ 300000 := by
            have := Nat.mul_le_mul (Nat.le_of_lt HB.out.1) HB.out.2
            rw [← hst] at this
            omega
          have r2 : (f : Int) ≤ 1000000000 := by omega
          have c0 := H6.out.pa.c0
          clear hi hrd hp hL hn hst hfd g1 g2 g3 g4 HLT
          go_wp2_with fail
          refine HD.out.mono ?_
          rintro e w7 ⟨rfl, rfl⟩
          go_wp2_with fail
          refine HL.out.mono ?_
          rintro e w7 ⟨rfl, k7, hk7⟩
          have hb7 : Blk w7 w.heap.size 38 #[.int .u64 0, .int .u64 0, .int .u64 0, .int .u64 0, .int .u64 0] := by rw [hk7]; exact H6.out.res.drewN _
          have H7 : Hid (Kept (PFt g R) w w7) := Lib.hid (by rw [hk7]; exact H6.out.fr.drewN _)
          have rz0 : w7.cell? ⟨w.heap.size, 0, none⟩ = some (.int .u64 0) := (hb7.cell 0).trans rfl
          have rzf0 : w7.frozen? ⟨w.heap.size, 0, none⟩ = false := hb7.frozen 0
          have rz1 : w7.cell? ⟨w.heap.size, 1, none⟩ = some (.int .u64 0) := (hb7.cell 1).trans rfl
          have rzf1 : w7.frozen? ⟨w.heap.size, 1, none⟩ = false := hb7.frozen 1
          have rz2 : w7.cell? ⟨w.heap.size, 2, none⟩ = some (.int .u64 0) := (hb7.cell 2).trans rfl
          have rzf2 : w7.frozen? ⟨w.heap.size, 2, none⟩ = false := hb7.frozen 2
          have rz3 : w7.cell? ⟨w.heap.size, 3, none⟩ = some (.int .u64 0) := (hb7.cell 3).trans rfl
          have rzf3 : w7.frozen? ⟨w.heap.size, 3, none⟩ = false := hb7.frozen 3
          have rz4 : w7.cell? ⟨w.heap.size, 4, none⟩ = some (.int .u64 0) := (hb7.cell 4).trans rfl
          have rzf4 : w7.frozen? ⟨w.heap.size, 4, none⟩ = false := hb7.frozen 4
          clear hk7 hb7 HL
          go_wp2_with fail
          refine bodyPost_ret (v := hval (some (a1, a2, pl, st, f))) (by simp [results, Try.f24, go_sem, hval, rz0, rz1, rz2, rz3, rz4]) rfl ?_
          exact ⟨by rw [HR.out], set5k H7.out _ _ _ _ _⟩
        · rw [decide_eq_false g4] at HD
          have HN : Hid (pnmH l = none) := Lib.hid (by rw [HQ.out, if_neg (fun h => g4 h.2.2)])
          have rz0 : w6.cell? ⟨w.heap.size, 0, none⟩ = some (.int .u64 0) := (H6.out.res.cell 0).trans rfl
          have rzf0 : w6.frozen? ⟨w.heap.size, 0, none⟩ = false := H6.out.res.frozen 0
          have rz1 : w6.cell? ⟨w.heap.size, 1, none⟩ = some (.int .u64 0) := (H6.out.res.cell 1).trans rfl
          have rzf1 : w6.frozen? ⟨w.heap.size, 1, none⟩ = false := H6.out.res.frozen 1
          have rz2 : w6.cell? ⟨w.heap.size, 2, none⟩ = some (.int .u64 0) := (H6.out.res.cell 2).trans rfl
          have rzf2 : w6.frozen? ⟨w.heap.size, 2, none⟩ = false := H6.out.res.frozen 2
          have rz3 : w6.cell? ⟨w.heap.size, 3, none⟩ = some (.int .u64 0) := (H6.out.res.cell 3).trans rfl
          have rzf3 : w6.frozen? ⟨w.heap.size, 3, none⟩ = false := H6.out.res.frozen 3
          have rz4 : w6.cell? ⟨w.heap.size, 4, none⟩ = some (.int .u64 0) := (H6.out.res.cell 4).trans rfl
          have rzf4 : w6.frozen? ⟨w.heap.size, 4, none⟩ = false := H6.out.res.frozen 4
          go_wp2_with fail
          refine HD.out.mono ?_
          rintro e w7 ⟨rfl, rfl⟩
          go_wp2_with fail
          refine bodyPost_ret (v := hval none) (by simp [results, Try.f24, go_sem, hval, rz0, rz1, rz2, rz3, rz4]) rfl ?_
          exact ⟨by rw [HN.out], set5k H6.out.fr _ _ _ _ _⟩
      · have g3' : (255 : Int) < (a3 : Int) := by omega
        have HN : Hid (pnmH l = none) := Lib.hid (by rw [HQ.out, if_neg (fun h => g3 h.2.1.2)])
        have rz0 : w6.cell? ⟨w.heap.size, 0, none⟩ = some (.int .u64 0) := (H6.out.res.cell 0).trans rfl
        have rzf0 : w6.frozen? ⟨w.heap.size, 0, none⟩ = false := H6.out.res.frozen 0
        have rz1 : w6.cell? ⟨w.heap.size, 1, none⟩ = some (.int .u64 0) := (H6.out.res.cell 1).trans rfl
        have rzf1 : w6.frozen? ⟨w.heap.size, 1, none⟩ = false := H6.out.res.frozen 1
        have rz2 : w6.cell? ⟨w.heap.size, 2, none⟩ = some (.int .u64 0) := (H6.out.res.cell 2).trans rfl
        have rzf2 : w6.frozen? ⟨w.heap.size, 2, none⟩ = false := H6.out.res.frozen 2
        have rz3 : w6.cell? ⟨w.heap.size, 3, none⟩ = some (.int .u64 0) := (H6.out.res.cell 3).trans rfl
        have rzf3 : w6.frozen? ⟨w.heap.size, 3, none⟩ = false := H6.out.res.frozen 3
        have rz4 : w6.cell? ⟨w.heap.size, 4, none⟩ = some (.int .u64 0) := (H6.out.res.cell 4).trans rfl
        have rzf4 : w6.frozen? ⟨w.heap.size, 4, none⟩ = false := H6.out.res.frozen 4
        go_wp2_with fail
        refine bodyPost_ret (v := hval none) (by simp [results, Try.f24, go_sem, hval, rz0, rz1, rz2, rz3, rz4]) rfl ?_
        exact ⟨by rw [HN.out], set5k H6.out.fr _ _ _ _ _⟩
    · have g2' : (a3 : Int) < 1 := by omega
      have HN : Hid (pnmH l = none) := Lib.hid (by rw [HQ.out, if_neg (fun h => g2 h.2.1.1)])
      have rz0 : w6.cell? ⟨w.heap.size, 0, none⟩ = some (.int .u64 0) := (H6.out.res.cell 0).trans rfl
      have rzf0 : w6.frozen? ⟨w.heap.size, 0, none⟩ = false := H6.out.res.frozen 0
      have rz1 : w6.cell? ⟨w.heap.size, 1, none⟩ = some (.int .u64 0) := (H6.out.res.cell 1).trans rfl
      have rzf1 : w6.frozen? ⟨w.heap.size, 1, none⟩ = false := H6.out.res.frozen 1
      have rz2 : w6.cell? ⟨w.heap.size, 2, none⟩ = some (.int .u64 0) := (H6.out.res.cell 2).trans rfl
      have rzf2 : w6.frozen? ⟨w.heap.size, 2, none⟩ = false := H6.out.res.frozen 2
      have rz3 : w6.cell? ⟨w.heap.size, 3, none⟩ = some (.int .u64 0) := (H6.out.res.cell 3).trans rfl
      have rzf3 : w6.frozen? ⟨w.heap.size, 3, none⟩ = false := H6.out.res.frozen 3
      have rz4 : w6.cell? ⟨w.heap.size, 4, none⟩ = some (.int .u64 0) := (H6.out.res.cell 4).trans rfl
      have rzf4 : w6.frozen? ⟨w.heap.size, 4, none⟩ = false := H6.out.res.frozen 4
      go_wp2_with fail
      refine bodyPost_ret (v := hval none) (by simp [results, Try.f24, go_sem, hval, rz0, rz1, rz2, rz3, rz4]) rfl ?_
      exact ⟨by rw [HN.out], set5k H6.out.fr _ _ _ _ _⟩

end

set_option maxHeartbeats 1600000 in
theorem cNewPnm_any (A : Option Addr) (n c : Nat) (l : List Int) (w : World) (hr : Row w .u8 A n l) (h8 : B8 l) (hn : n ≤ 1000000000) :
    Calls Try.prog 23 #[.slice A n c] w fun e w' => ∃ g R A' c', e = .returned (.pointer (some ⟨g, 0, none⟩)) ∧ Blk w' g 67 #[.pointer (some ⟨R, 0, none⟩), .int .u8 0] ∧ NRd w' R 73 [] A' c' l 0 0 ∧ (∀ b o, A' = some ⟨b, o, none⟩ → 0 < l.length → b ≠ g) ∧ w.heap.size ≤ g ∧ w.heap.size ≤ R ∧ Fresh w w' := by
  have HN := Lib.hid (nrNew_any A n c l w hr h8 (by omega))
  clear hr
  go_enter Try.func23, Try.ntmps23
  go_wp2_with fail
  refine HN.out.mono ?_
  rintro e w1 ⟨R, A', c', rfl, h1, h2, _, h4⟩
  have H1 := Lib.hid (And.intro h1 (And.intro h2 h4))
  clear h1 h2 h4 HN
  go_wp2_with fail
  go_ret
  refine ⟨w1.heap.size, R, A', c', rfl, Blk.new _ _ _, H1.out.1.kept ((Kept.refl (fun _ => False) _).alloc _) id (fun _ _ _ _ => id), fun b o e hp => ?_, H1.out.2.2.size, H1.out.2.1, H1.out.2.2.alloc _⟩
  obtain ⟨b', o', e', hlt, _⟩ := H1.out.1.row.at_ 0 hp
  rw [e] at e'
  injection e' with e'
  injection e' with e1 e2
  omega

set_option maxHeartbeats 1600000 in
/-- Pnm: P16.2. -/
theorem cPnm_any (A : Option Addr) (n c : Nat) (l : List Int) (w : World) (hr : Row w .u8 A n l) (h8 : B8 l) (hn : n ≤ 1000000000) :
    Calls Try.prog 11 #[.slice A n c] w fun e w' => e = .returned (.tuple #[pval (pnmP l), .bool (pnmP l).isSome]) ∧ Fresh w w' := by
  obtain rfl := hr.len
  obtain ⟨W0, hW0⟩ : ∃ W0, W0 = w.alloc (.cells #[.int .i64 0, .int .i64 0, .int .i64 0, .int .i64 0, .int .i64 0] 26) := ⟨_, rfl⟩
  have hf0 : Fresh w W0 := by rw [hW0]; exact (Kept.refl _ _).alloc _
  have hb0 : Blk W0 w.heap.size 26 #[.int .i64 0, .int .i64 0, .int .i64 0, .int .i64 0, .int .i64 0] := by rw [hW0]; exact Blk.new _ _ _
  have HN := Lib.hid (cNewPnm_any A l.length c l W0 (hr.kept hf0 (fun _ _ _ _ => id)) h8 hn)
  have H0 := Lib.hid (And.intro hf0 hb0)
  have HC := Lib.hid (And.intro h8 hn)
  obtain ⟨n, hnn⟩ : ∃ n, n = l.length := ⟨_, rfl⟩
  have Hn := Lib.hid hnn
  rw [← hnn] at HN ⊢
  clear hr h8 hn hf0 hb0 hnn
  go_enter Try.func11, Try.ntmps11
  go_wp2_with fail
  rw [← hW0]
  clear hW0
  refine HN.out.mono ?_
  rintro e w1 ⟨g, R, A', c', rfl, h1, h2, h3, h4, h5, h6⟩
  have H1 := Lib.hid (And.intro h1 (And.intro h2 (And.intro h3 (And.intro h4 (And.intro h5 h6)))))
  clear h1 h2 h3 h4 h5 h6 HN
  go_wp2_with fail
  refine (cPnmHead_any g R A' c' l w1 H1.out.1 H1.out.2.1 (by rw [← Hn.out]; exact H1.out.2.2.1) HC.out.2).mono ?_
  rintro e w2 ⟨rfl, hk⟩
  have hf2 : Fresh W0 w2 := H1.out.2.2.2.2.2.trans hk fun i hi e => by
    rcases e with e | e
    · have := H1.out.2.2.2.1; omega
    · have := H1.out.2.2.2.2.1; omega
  have H2 := Lib.hid hf2
  clear hk hf2
  go_wp2_with fail
  refine (cWithin_any (pnmH l) n w2 (fun r hr => pnmH_ok HC.out.2 hr) (by rw [Hn.out]; exact HC.out.2)).mono ?_
  rw [show fitO n (pnmH l) = pnmP l from by rw [Hn.out, pnmP_fit]]
  rintro e w3 ⟨rfl, hf3⟩
  have hf := H2.out.trans hf3 fun _ _ e => e
  have hr := H0.out.2.kept hf id
  obtain ⟨o, ho⟩ : ∃ o, o = pnmP l := ⟨_, rfl⟩
  rw [← ho]
  have Ho := Lib.hid ho
  have HF := Lib.hid (H0.out.1.trans hf fun _ _ e => e)
  have rz0 : w3.cell? ⟨w.heap.size, 0, none⟩ = some (.int .i64 0) := (hr.cell 0).trans rfl
  have rzf0 : w3.frozen? ⟨w.heap.size, 0, none⟩ = false := hr.frozen 0
  have rz1 : w3.cell? ⟨w.heap.size, 1, none⟩ = some (.int .i64 0) := (hr.cell 1).trans rfl
  have rzf1 : w3.frozen? ⟨w.heap.size, 1, none⟩ = false := hr.frozen 1
  have rz2 : w3.cell? ⟨w.heap.size, 2, none⟩ = some (.int .i64 0) := (hr.cell 2).trans rfl
  have rzf2 : w3.frozen? ⟨w.heap.size, 2, none⟩ = false := hr.frozen 2
  have rz3 : w3.cell? ⟨w.heap.size, 3, none⟩ = some (.int .i64 0) := (hr.cell 3).trans rfl
  have rzf3 : w3.frozen? ⟨w.heap.size, 3, none⟩ = false := hr.frozen 3
  have rz4 : w3.cell? ⟨w.heap.size, 4, none⟩ = some (.int .i64 0) := (hr.cell 4).trans rfl
  have rzf4 : w3.frozen? ⟨w.heap.size, 4, none⟩ = false := hr.frozen 4
  clear hf3 hf hr ho
  cases o with
  | none =>
    simp only [pval, Option.isSome_none]
    go_wp2_with fail
    refine bodyPost_ret (v := .tuple #[pval none, .bool false]) (by simp [results, Try.f11, go_sem, pval, rz0, rz1, rz2, rz3, rz4]) rfl ?_
    exact ⟨by rw [← Ho.out]; rfl, set5 HF.out _ _ _ _ _⟩
  | some r =>
    simp only [pval, Option.isSome_some]
    go_wp2_with fail
    refine bodyPost_ret (v := .tuple #[pval (some r), .bool true]) (by simp [results, Try.f11, go_sem, pval, rz0, rz1, rz2, rz3, rz4]) rfl ?_
    exact ⟨by rw [← Ho.out]; rfl, set5 HF.out _ _ _ _ _⟩


set_option maxHeartbeats 3200000 in
/-- Parse: P16.2 (the code). -/
theorem cPic_any (A : Option Addr) (n c : Nat) (l : List Int) (w : World) (hr : Row w .u8 A n l) (h8 : B8 l) (hn : n ≤ 1000000000) (hnc : n ≤ c) :
    Calls Try.prog 13 #[.slice A n c] w fun e w' => e = .returned (.tuple #[pval (picP l), .bool (picP l).isSome]) ∧ Fresh w w' := by
  obtain ⟨W0, hW0⟩ : ∃ W0, W0 = w.alloc (.cells #[.int .i64 0, .int .i64 0, .int .i64 0, .int .i64 0, .int .i64 0] 26) := ⟨_, rfl⟩
  have hf0 : Fresh w W0 := by rw [hW0]; exact (Kept.refl _ _).alloc _
  have hb0 : Blk W0 w.heap.size 26 #[.int .i64 0, .int .i64 0, .int .i64 0, .int .i64 0, .int .i64 0] := by rw [hW0]; exact Blk.new _ _ _
  have HB := Lib.hid (cBmp_any A n c l W0 (hr.kept hf0 (fun _ _ _ _ => id)) h8 hn hnc)
  have HP : Hid (∀ V, Fresh w V → Calls Try.prog 11 #[.slice A n c] V fun e w' => e = .returned (.tuple #[pval (pnmP l), .bool (pnmP l).isSome]) ∧ Fresh V w') := Lib.hid fun V hV => cPnm_any A n c l V (hr.kept hV (fun _ _ _ _ => id)) h8 hn
  have HQ : Hid (picP l = if (bmpP l).isSome then bmpP l else pnmP l) := Lib.hid rfl
  have H0 := Lib.hid (And.intro hf0 hb0)
  clear hr h8 hn hf0 hb0 hnc
  obtain ⟨Q, hQ⟩ : ∃ Q, Q = picP l := ⟨_, rfl⟩
  rw [← hQ] at HQ ⊢
  clear hQ
  generalize bmpP l = o at *
  generalize pnmP l = u at *
  cases o with
  | some r =>
    have HE : Hid (Q = some r) := Lib.hid HQ.out
    simp only [pval, Option.isSome_some] at HB
    clear HQ HP
    go_enter Try.func13, Try.ntmps13
    go_wp2_with fail
    rw [← hW0]
    clear hW0
    refine HB.out.mono ?_
    rintro e w1 ⟨rfl, h1⟩
    have hr := H0.out.2.kept h1 id
    have H1 := Lib.hid (H0.out.1.trans h1 fun _ _ e => e)
    obtain ⟨ra, rb, rp, rs, rf⟩ := r
    simp only []
    obtain ⟨W2, hW2⟩ : ∃ W2, w1.alloc (.cells #[.int .i64 (ra : Nat), .int .i64 (rb : Nat), .int .i64 (rp : Nat), .int .i64 (rs : Nat), .int .i64 (rf : Nat)] 26) = W2 := ⟨_, rfl⟩
    have hp : Blk W2 w1.heap.size 26 #[.int .i64 (ra : Nat), .int .i64 (rb : Nat), .int .i64 (rp : Nat), .int .i64 (rs : Nat), .int .i64 (rf : Nat)] := by rw [← hW2]; exact Blk.new _ _ _
    have hr2 : Blk W2 w.heap.size 26 #[.int .i64 0, .int .i64 0, .int .i64 0, .int .i64 0, .int .i64 0] := by rw [← hW2]; exact hr.alloc _
    have H2 : Hid (Fresh w W2) := Lib.hid (by rw [← hW2]; exact H1.out.alloc _)
    have rz0 : W2.cell? ⟨w.heap.size, 0, none⟩ = some (.int .i64 0) := (hr2.cell 0).trans rfl
    have rzf0 : W2.frozen? ⟨w.heap.size, 0, none⟩ = false := hr2.frozen 0
    have rz1 : W2.cell? ⟨w.heap.size, 1, none⟩ = some (.int .i64 0) := (hr2.cell 1).trans rfl
    have rzf1 : W2.frozen? ⟨w.heap.size, 1, none⟩ = false := hr2.frozen 1
    have rz2 : W2.cell? ⟨w.heap.size, 2, none⟩ = some (.int .i64 0) := (hr2.cell 2).trans rfl
    have rzf2 : W2.frozen? ⟨w.heap.size, 2, none⟩ = false := hr2.frozen 2
    have rz3 : W2.cell? ⟨w.heap.size, 3, none⟩ = some (.int .i64 0) := (hr2.cell 3).trans rfl
    have rzf3 : W2.frozen? ⟨w.heap.size, 3, none⟩ = false := hr2.frozen 3
    have rz4 : W2.cell? ⟨w.heap.size, 4, none⟩ = some (.int .i64 0) := (hr2.cell 4).trans rfl
    have rzf4 : W2.frozen? ⟨w.heap.size, 4, none⟩ = false := hr2.frozen 4
    have pc0 : W2.cell? ⟨w1.heap.size, 0, none⟩ = some (.int .i64 (ra : Nat)) := (hp.cell 0).trans rfl
    have pcf0 : W2.frozen? ⟨w1.heap.size, 0, none⟩ = false := hp.frozen 0
    have pc1 : W2.cell? ⟨w1.heap.size, 1, none⟩ = some (.int .i64 (rb : Nat)) := (hp.cell 1).trans rfl
    have pcf1 : W2.frozen? ⟨w1.heap.size, 1, none⟩ = false := hp.frozen 1
    have pc2 : W2.cell? ⟨w1.heap.size, 2, none⟩ = some (.int .i64 (rp : Nat)) := (hp.cell 2).trans rfl
    have pcf2 : W2.frozen? ⟨w1.heap.size, 2, none⟩ = false := hp.frozen 2
    have pc3 : W2.cell? ⟨w1.heap.size, 3, none⟩ = some (.int .i64 (rs : Nat)) := (hp.cell 3).trans rfl
    have pcf3 : W2.frozen? ⟨w1.heap.size, 3, none⟩ = false := hp.frozen 3
    have pc4 : W2.cell? ⟨w1.heap.size, 4, none⟩ = some (.int .i64 (rf : Nat)) := (hp.cell 4).trans rfl
    have pcf4 : W2.frozen? ⟨w1.heap.size, 4, none⟩ = false := hp.frozen 4
    clear h1 hr hr2 hp HB
    go_wp2_with fail
    refine bodyPost_ret (v := .tuple #[pval (some (ra, rb, rp, rs, rf)), .bool true]) (by simp [results, Try.f13, go_sem, pval, rz0, rz1, rz2, rz3, rz4]) rfl ?_
    exact ⟨by rw [HE.out]; rfl, set5 H2.out _ _ _ _ _⟩
  | none =>
    have HE : Hid (Q = u) := Lib.hid HQ.out
    simp only [pval, Option.isSome_none] at HB
    clear HQ
    go_enter Try.func13, Try.ntmps13
    go_wp2_with fail
    rw [← hW0]
    clear hW0
    refine HB.out.mono ?_
    rintro e w1 ⟨rfl, h1⟩
    have hr1 := H0.out.2.kept h1 id
    have H1 := Lib.hid (And.intro hr1 (H0.out.1.trans h1 fun _ _ e => e))
    clear h1 HB hr1
    go_wp2_with fail
    refine (HP.out _ (H1.out.2.alloc _)).mono ?_
    rintro e w2 ⟨rfl, h2⟩
    have hr := (H1.out.1.alloc _).kept h2 id
    have H2 := Lib.hid ((H1.out.2.alloc _).trans h2 fun _ _ e => e)
    have rz0 : w2.cell? ⟨w.heap.size, 0, none⟩ = some (.int .i64 0) := (hr.cell 0).trans rfl
    have rzf0 : w2.frozen? ⟨w.heap.size, 0, none⟩ = false := hr.frozen 0
    have rz1 : w2.cell? ⟨w.heap.size, 1, none⟩ = some (.int .i64 0) := (hr.cell 1).trans rfl
    have rzf1 : w2.frozen? ⟨w.heap.size, 1, none⟩ = false := hr.frozen 1
    have rz2 : w2.cell? ⟨w.heap.size, 2, none⟩ = some (.int .i64 0) := (hr.cell 2).trans rfl
    have rzf2 : w2.frozen? ⟨w.heap.size, 2, none⟩ = false := hr.frozen 2
    have rz3 : w2.cell? ⟨w.heap.size, 3, none⟩ = some (.int .i64 0) := (hr.cell 3).trans rfl
    have rzf3 : w2.frozen? ⟨w.heap.size, 3, none⟩ = false := hr.frozen 3
    have rz4 : w2.cell? ⟨w.heap.size, 4, none⟩ = some (.int .i64 0) := (hr.cell 4).trans rfl
    have rzf4 : w2.frozen? ⟨w.heap.size, 4, none⟩ = false := hr.frozen 4
    clear h2 hr
    cases u with
    | none =>
      simp only [pval, Option.isSome_none]
      go_wp2_with fail
      refine bodyPost_ret (v := .tuple #[pval none, .bool false]) (by simp [results, Try.f13, go_sem, pval, rz0, rz1, rz2, rz3, rz4]) rfl ?_
      exact ⟨by rw [HE.out]; rfl, set5 H2.out _ _ _ _ _⟩
    | some r =>
      simp only [pval, Option.isSome_some]
      go_wp2_with fail
      refine bodyPost_ret (v := .tuple #[pval (some r), .bool true]) (by simp [results, Try.f13, go_sem, pval, rz0, rz1, rz2, rz3, rz4]) rfl ?_
      exact ⟨by rw [HE.out]; rfl, set5 H2.out _ _ _ _ _⟩

set_option maxHeartbeats 3200000 in
/-- Parse: P16.2 (the document). -/
theorem qPic_any (A : Option Addr) (n c : Nat) (l : List Int) (w : World) (hr : Row w .u8 A n l) (h8 : B8 l) (hn : n ≤ 1000000000) (hnc : n ≤ c) :
    Calls Try.prog 14 #[.slice A n c] w fun e w' => e = .returned (.tuple #[pval (picP l), .bool (picP l).isSome]) ∧ Fresh w w' := by
  obtain ⟨W0, hW0⟩ : ∃ W0, W0 = w.alloc (.cells #[.int .i64 0, .int .i64 0, .int .i64 0, .int .i64 0, .int .i64 0] 26) := ⟨_, rfl⟩
  have hf0 : Fresh w W0 := by rw [hW0]; exact (Kept.refl _ _).alloc _
  have hb0 : Blk W0 w.heap.size 26 #[.int .i64 0, .int .i64 0, .int .i64 0, .int .i64 0, .int .i64 0] := by rw [hW0]; exact Blk.new _ _ _
  have HB := Lib.hid (qBmp_any A n c l W0 (hr.kept hf0 (fun _ _ _ _ => id)) h8 hn hnc)
  have HP : Hid (∀ V, Fresh w V → Calls Try.prog 12 #[.slice A n c] V fun e w' => e = .returned (.tuple #[pval (pnmP l), .bool (pnmP l).isSome]) ∧ Fresh V w') := Lib.hid fun V hV => qPnm_any A n c l V (hr.kept hV (fun _ _ _ _ => id)) h8 hn
  have HQ : Hid (picP l = if (bmpP l).isSome then bmpP l else pnmP l) := Lib.hid rfl
  have H0 := Lib.hid (And.intro hf0 hb0)
  clear hr h8 hn hf0 hb0 hnc
  obtain ⟨Q, hQ⟩ : ∃ Q, Q = picP l := ⟨_, rfl⟩
  rw [← hQ] at HQ ⊢
  clear hQ
  generalize bmpP l = o at *
  generalize pnmP l = u at *
  cases o with
  | some r =>
    have HE : Hid (Q = some r) := Lib.hid HQ.out
    simp only [pval, Option.isSome_some] at HB
    clear HQ HP
    go_enter Try.func14, Try.ntmps14
    go_wp2_with fail
    rw [← hW0]
    clear hW0
    refine HB.out.mono ?_
    rintro e w1 ⟨rfl, h1⟩
    have hr := H0.out.2.kept h1 id
    have H1 := Lib.hid (H0.out.1.trans h1 fun _ _ e => e)
    obtain ⟨ra, rb, rp, rs, rf⟩ := r
    simp only []
    obtain ⟨W2, hW2⟩ : ∃ W2, w1.alloc (.cells #[.int .i64 (ra : Nat), .int .i64 (rb : Nat), .int .i64 (rp : Nat), .int .i64 (rs : Nat), .int .i64 (rf : Nat)] 26) = W2 := ⟨_, rfl⟩
    have hp : Blk W2 w1.heap.size 26 #[.int .i64 (ra : Nat), .int .i64 (rb : Nat), .int .i64 (rp : Nat), .int .i64 (rs : Nat), .int .i64 (rf : Nat)] := by rw [← hW2]; exact Blk.new _ _ _
    have hr2 : Blk W2 w.heap.size 26 #[.int .i64 0, .int .i64 0, .int .i64 0, .int .i64 0, .int .i64 0] := by rw [← hW2]; exact hr.alloc _
    have H2 : Hid (Fresh w W2) := Lib.hid (by rw [← hW2]; exact H1.out.alloc _)
    have rz0 : W2.cell? ⟨w.heap.size, 0, none⟩ = some (.int .i64 0) := (hr2.cell 0).trans rfl
    have rzf0 : W2.frozen? ⟨w.heap.size, 0, none⟩ = false := hr2.frozen 0
    have rz1 : W2.cell? ⟨w.heap.size, 1, none⟩ = some (.int .i64 0) := (hr2.cell 1).trans rfl
    have rzf1 : W2.frozen? ⟨w.heap.size, 1, none⟩ = false := hr2.frozen 1
    have rz2 : W2.cell? ⟨w.heap.size, 2, none⟩ = some (.int .i64 0) := (hr2.cell 2).trans rfl
    have rzf2 : W2.frozen? ⟨w.heap.size, 2, none⟩ = false := hr2.frozen 2
    have rz3 : W2.cell? ⟨w.heap.size, 3, none⟩ = some (.int .i64 0) := (hr2.cell 3).trans rfl
    have rzf3 : W2.frozen? ⟨w.heap.size, 3, none⟩ = false := hr2.frozen 3
    have rz4 : W2.cell? ⟨w.heap.size, 4, none⟩ = some (.int .i64 0) := (hr2.cell 4).trans rfl
    have rzf4 : W2.frozen? ⟨w.heap.size, 4, none⟩ = false := hr2.frozen 4
    have pc0 : W2.cell? ⟨w1.heap.size, 0, none⟩ = some (.int .i64 (ra : Nat)) := (hp.cell 0).trans rfl
    have pcf0 : W2.frozen? ⟨w1.heap.size, 0, none⟩ = false := hp.frozen 0
    have pc1 : W2.cell? ⟨w1.heap.size, 1, none⟩ = some (.int .i64 (rb : Nat)) := (hp.cell 1).trans rfl
    have pcf1 : W2.frozen? ⟨w1.heap.size, 1, none⟩ = false := hp.frozen 1
    have pc2 : W2.cell? ⟨w1.heap.size, 2, none⟩ = some (.int .i64 (rp : Nat)) := (hp.cell 2).trans rfl
    have pcf2 : W2.frozen? ⟨w1.heap.size, 2, none⟩ = false := hp.frozen 2
    have pc3 : W2.cell? ⟨w1.heap.size, 3, none⟩ = some (.int .i64 (rs : Nat)) := (hp.cell 3).trans rfl
    have pcf3 : W2.frozen? ⟨w1.heap.size, 3, none⟩ = false := hp.frozen 3
    have pc4 : W2.cell? ⟨w1.heap.size, 4, none⟩ = some (.int .i64 (rf : Nat)) := (hp.cell 4).trans rfl
    have pcf4 : W2.frozen? ⟨w1.heap.size, 4, none⟩ = false := hp.frozen 4
    clear h1 hr hr2 hp HB
    go_wp2_with fail
    refine bodyPost_ret (v := .tuple #[pval (some (ra, rb, rp, rs, rf)), .bool true]) (by simp [results, Try.f14, go_sem, pval, rz0, rz1, rz2, rz3, rz4]) rfl ?_
    exact ⟨by rw [HE.out]; rfl, set5 H2.out _ _ _ _ _⟩
  | none =>
    have HE : Hid (Q = u) := Lib.hid HQ.out
    simp only [pval, Option.isSome_none] at HB
    clear HQ
    go_enter Try.func14, Try.ntmps14
    go_wp2_with fail
    rw [← hW0]
    clear hW0
    refine HB.out.mono ?_
    rintro e w1 ⟨rfl, h1⟩
    have hr1 := H0.out.2.kept h1 id
    have H1 := Lib.hid (And.intro hr1 (H0.out.1.trans h1 fun _ _ e => e))
    clear h1 HB hr1
    go_wp2_with fail
    refine (HP.out _ (H1.out.2.alloc _)).mono ?_
    rintro e w2 ⟨rfl, h2⟩
    have hr := (H1.out.1.alloc _).kept h2 id
    have H2 := Lib.hid ((H1.out.2.alloc _).trans h2 fun _ _ e => e)
    have rz0 : w2.cell? ⟨w.heap.size, 0, none⟩ = some (.int .i64 0) := (hr.cell 0).trans rfl
    have rzf0 : w2.frozen? ⟨w.heap.size, 0, none⟩ = false := hr.frozen 0
    have rz1 : w2.cell? ⟨w.heap.size, 1, none⟩ = some (.int .i64 0) := (hr.cell 1).trans rfl
    have rzf1 : w2.frozen? ⟨w.heap.size, 1, none⟩ = false := hr.frozen 1
    have rz2 : w2.cell? ⟨w.heap.size, 2, none⟩ = some (.int .i64 0) := (hr.cell 2).trans rfl
    have rzf2 : w2.frozen? ⟨w.heap.size, 2, none⟩ = false := hr.frozen 2
    have rz3 : w2.cell? ⟨w.heap.size, 3, none⟩ = some (.int .i64 0) := (hr.cell 3).trans rfl
    have rzf3 : w2.frozen? ⟨w.heap.size, 3, none⟩ = false := hr.frozen 3
    have rz4 : w2.cell? ⟨w.heap.size, 4, none⟩ = some (.int .i64 0) := (hr.cell 4).trans rfl
    have rzf4 : w2.frozen? ⟨w.heap.size, 4, none⟩ = false := hr.frozen 4
    clear h2 hr
    cases u with
    | none =>
      simp only [pval, Option.isSome_none]
      go_wp2_with fail
      refine bodyPost_ret (v := .tuple #[pval none, .bool false]) (by simp [results, Try.f14, go_sem, pval, rz0, rz1, rz2, rz3, rz4]) rfl ?_
      exact ⟨by rw [HE.out]; rfl, set5 H2.out _ _ _ _ _⟩
    | some r =>
      simp only [pval, Option.isSome_some]
      go_wp2_with fail
      refine bodyPost_ret (v := .tuple #[pval (some r), .bool true]) (by simp [results, Try.f14, go_sem, pval, rz0, rz1, rz2, rz3, rz4]) rfl ?_
      exact ⟨by rw [HE.out]; rfl, set5 H2.out _ _ _ _ _⟩

end Go.Proofs.Ytlmhodkdcllcjaa
