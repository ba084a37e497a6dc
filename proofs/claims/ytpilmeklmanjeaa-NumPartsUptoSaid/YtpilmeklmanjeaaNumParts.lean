/- NumParts: what is written in parts, or at once, is the same; for every list of texts and every list of numbers that are together of bulk at most 1048576 (the second form). -/
import Derived.Test.YtpilmeklmanjeaaNumAwake
import Derived.Test.YtpilmeklmanjeaaNumOpen
import Derived.Test.YtpilmeklmanjeaaHelpStr
import Derived.Test.YtpilmeklmanjeaaNumR
import Derived.JoinedCond
namespace Go.Proofs.Ytpilmeklmanjeaa.numParts
open Go.ChangeShapes Go.WideShapes Go.ChangeAt Go.RowKit

/-- Two writers and a list, all of them new, and apart. -/
structure PS (w0 wr : World) (g1 g2 : Nat) (v1 v2 va : Value) (b1 b2 ba : List Int) : Prop where
  o1 : NW wr g1 v1 b1
  o2 : NW wr g2 v2 b2
  oa : Own wr 5 .u8 va ba
  fr : Fresh w0 wr
  n1 : ∀ k, NFoot g1 v1 k → w0.heap.size ≤ k
  n2 : ∀ k, NFoot g2 v2 k → w0.heap.size ≤ k
  na : ∀ k, va.ownBlock = some k → w0.heap.size ≤ k
  d12 : ∀ k, NFoot g1 v1 k → ¬ NFoot g2 v2 k
  d1a : ∀ k, NFoot g1 v1 k → va.ownBlock ≠ some k
  d2a : ∀ k, NFoot g2 v2 k → va.ownBlock ≠ some k

section
variable {w0 wr w' : World} {g1 g2 : Nat} {v1 v2 va : Value} {b1 b2 ba : List Int}
theorem PS.new (h : PS w0 wr g1 g2 v1 v2 va b1 b2 ba) (hf : Fresh wr w') : PS w0 w' g1 g2 v1 v2 va b1 b2 ba :=
  ⟨h.o1.kept hf (fun _ _ => id), h.o2.kept hf (fun _ _ => id), h.oa.kept hf (fun _ _ => id), h.fr.trans hf (fun _ _ h => h), h.n1, h.n2, h.na, h.d12, h.d1a, h.d2a⟩
theorem PS.swap (h : PS w0 wr g1 g2 v1 v2 va b1 b2 ba) : PS w0 wr g2 g1 v2 v1 va b2 b1 ba :=
  ⟨h.o2, h.o1, h.oa, h.fr, h.n2, h.n1, h.na, fun k h2 h1 => h.d12 k h1 h2, h.d2a, h.d1a⟩
theorem PS.step1 {b1' : List Int} (h : PS w0 wr g1 g2 v1 v2 va b1 b2 ba) (hp : NPost wr w' g1 v1 b1') : ∃ v1', PS w0 w' g1 g2 v1' v2 va b1' b2 ba := by
  obtain ⟨v1', ho, hv, hk⟩ := hp
  have hnew : ∀ k, NFoot g1 v1' k → NFoot g1 v1 k ∨ wr.heap.size ≤ k := by
    rintro k (rfl | e)
    · exact .inl (.inl rfl)
    · rcases hv k e with e | e
      · exact .inl (.inr e)
      · exact .inr e
  refine ⟨v1', ho, h.o2.kept hk (fun k h2 h1 => h.d12 k h1 h2), h.oa.kept hk (fun k ha h1 => h.d1a k h1 ha), h.fr.trans hk (fun i hi h1 => ?_), fun k hk' => ?_, h.n2, h.na, fun k hk' h2 => ?_, fun k hk' ha => ?_, h.d2a⟩
  · have := h.n1 i h1; omega
  · rcases hnew k hk' with e | e
    · exact h.n1 k e
    · have := h.fr.size; omega
  · rcases hnew k hk' with e | e
    · exact h.d12 k e h2
    · have := h.o2.lt k h2; omega
  · rcases hnew k hk' with e | e
    · exact h.d1a k e ha
    · have := h.oa.lt ha; omega
theorem PS.step2 {b2' : List Int} (h : PS w0 wr g1 g2 v1 v2 va b1 b2 ba) (hp : NPost wr w' g2 v2 b2') : ∃ v2', PS w0 w' g1 g2 v1 v2' va b1 b2' ba := by
  obtain ⟨v2', h'⟩ := h.swap.step1 hp
  exact ⟨v2', h'.swap⟩
theorem PS.stepA {va' : Value} {ba' : List Int} (h : PS w0 wr g1 g2 v1 v2 va b1 b2 ba) (ho : Own w' 5 .u8 va' ba') (hg : wr.grownBy w' va.ownBlock) (hat : va'.ownBlock = va.ownBlock ∨ va'.ownBlock = some wr.heap.size) :
    PS w0 w' g1 g2 v1 v2 va' b1 b2 ba' := by
  have hk : Kept (fun k => va.ownBlock = some k) wr w' := (Kept.refl _ _).grown hg (fun k e _ => e)
  have hnew : ∀ k, va'.ownBlock = some k → va.ownBlock = some k ∨ wr.heap.size ≤ k := by
    intro k e
    rcases hat with e' | e'
    · rw [e'] at e; exact .inl e
    · rw [e'] at e; injection e with e; exact .inr (by omega)
  refine ⟨h.o1.kept hk h.d1a, h.o2.kept hk h.d2a, ho, h.fr.trans hk (fun i hi h1 => ?_), h.n1, h.n2, fun k hk' => ?_, h.d12, fun k h1 ha => ?_, fun k h2 ha => ?_⟩
  · have := h.na i h1; omega
  · rcases hnew k hk' with e | e
    · exact h.na k e
    · have := h.fr.size; omega
  · rcases hnew k ha with e | e
    · exact h.d1a k h1 e
    · have := h.o1.lt k h1; omega
  · rcases hnew k ha with e | e
    · exact h.d2a k h2 e
    · have := h.o2.lt k h2; omega
end

theorem PS.start (w : World) : PS w ((w.alloc (.cells #[.slice none 0 0] 26)).alloc (.cells #[.slice none 0 0] 26)) w.heap.size (w.heap.size + 1) (.slice none 0 0) (.slice none 0 0) (.slice none 0 0) [] [] [] := by
  have h1 := (NW.new w).kept ((Kept.refl (fun _ => False) _).alloc (.cells #[.slice none 0 0] 26)) (fun _ _ => id)
  have h2 := NW.new (w.alloc (.cells #[.slice none 0 0] 26))
  have e : (w.alloc (.cells #[.slice none 0 0] 26)).heap.size = w.heap.size + 1 := by simp
  rw [e] at h2
  refine ⟨h1, h2, Own.nil _ _ _, ((Kept.refl _ _).alloc _).alloc _, ?_, ?_, ?_, ?_, ?_, ?_⟩
  · rintro k (rfl | e)
    · omega
    · cases e
  · rintro k (rfl | e)
    · omega
    · cases e
  · intro k e; cases e
  · rintro k (rfl | e) (e' | e')
    · omega
    · cases e'
    · cases e
    · cases e
  · intro k _ e; cases e
  · intro k _ e; cases e

/-- The numbers by sevens, one behind the other. -/
def svs (l : List Int) : List Int := l.flatMap fun x => sv x.toNat

theorem svs_take {l : List Int} {j : Nat} (h : j < l.length) : svs (l.take (j + 1)) = svs (l.take j) ++ sv (l.getD j 0).toNat := by
  rw [List.take_succ_eq_append_getElem h]
  simp [svs, List.getD, h, -List.take_append_getElem]
theorem svs_byte (l : List Int) : ∀ x ∈ svs l, 0 ≤ x ∧ x < 256 := by
  intro x hx
  simp only [svs, List.mem_flatMap] at hx
  obtain ⟨y, _, hy⟩ := hx
  exact sv_byte _ x hy
theorem svs_len : ∀ l : List Int, (∀ x ∈ l, 0 ≤ x ∧ x < 18446744073709551616) → (svs l).length ≤ 10 * l.length
  | [], _ => by simp [svs]
  | x :: r, h => by
    have h1 := h x (by simp)
    have h2 := svs_len r (fun y hy => h y (by simp [hy]))
    have h3 := sv_le10 x.toNat (by omega)
    have e : svs (x :: r) = sv x.toNat ++ svs r := by simp [svs]
    rw [e, List.length_append, List.length_cons]
    omega

set_option maxRecDepth 100000 in
set_option maxHeartbeats 4000000 in
theorem walk (P : Option Addr) (m c : Nat) (L : List (List Int)) (V : Option Addr) (n d : Nat) (N : List Int) (w : World) (hp : Parts w P m L (fun b => w.heap.size ≤ b)) (hL : ∀ l ∈ L, ∀ x ∈ l, 0 ≤ x ∧ x < 256) (hl : L.flatten.length ≤ 1048576)
    (hv : Row w .u64 V n N) (hN : ∀ x ∈ N, 0 ≤ x ∧ x < 18446744073709551616) (hm : m ≤ maxLen) (hn : n ≤ maxLen) :
    Calls Try.prog 5 #[.slice P m c, .slice V n d] w fun e w' => e = .returned (.bool true) ∧ Below w.heap.size w w' := by
  obtain ⟨i0, hi, hz0, hz1, hz2⟩ := info_parts Try.infoByteN
  unfold maxLen at hm hn
  by_cases hsmall : m ≤ 50 ∧ n ≤ 50
  · obtain ⟨hm50, hn50⟩ := hsmall
    have hg1 : ¬ (50 : Int) < m := by omega
    have hg2 : ¬ (50 : Int) < n := by omega
    have HP := Lib.hid hp
    have HV := Lib.hid hv
    have HL := Lib.hid hL
    have HN := Lib.hid hN
    have Hlen := Lib.hid (And.intro hp.len hv.len)
    clear hp hv hL hN hm hn
    go_enter Try.func5, Try.ntmps5
    go_wp2_with fail
    have h0 := PS.start w
    generalize (w.alloc (.cells #[.slice none 0 0] 26)).alloc (.cells #[.slice none 0 0] 26) = W0 at *
    have H0 := Lib.hid h0
    clear h0
    go_loopw [7, 8] (fun a i wr => ∃ (j : Nat) (v1 v2 : Value), j ≤ m ∧ i = .int .i64 j ∧ PS w wr w.heap.size (w.heap.size + 1) v1 v2 a (L.take j).flatten [] (L.take j).flatten) (fun _ i _ => (m - intOf i).toNat)
    case atStart => exact ⟨0, _, _, by omega, rfl, by simpa using H0.out⟩
    case round =>
      obtain ⟨j, v1, v2, hj, rfl, hps⟩ := hrel
      have HPS := Lib.hid hps
      clear hps
      by_cases hlt : j < m
      · obtain ⟨b, o, A, k, cA, rfl, hb, hfb, hc', hr', hA⟩ := HP.out.at_ j hlt
        have hc := (HPS.out.fr.cell (p := ⟨b, o + j, none⟩) hb id).trans hc'
        have hr := hr'.kept HPS.out.fr (fun _ _ _ _ => id)
        have hjl : j < L.length := by rw [Hlen.out.1]; exact hlt
        have hlj := flat_le (L := L) hjl
        have hft := flat_take (L := L) hjl
        generalize L.getD j [] = xj at *
        have hkl := hr.len
        clear hjl
        have hra : ∀ b' o', A = some ⟨b', o', none⟩ → 0 < k → ¬ NFoot w.heap.size v1 b' := fun b' o' e hk hf => hA b' o' e hk (HPS.out.n1 _ hf)
        have hone := Parts.one (c := cA) (t := 23) (F := NFoot w.heap.size v1) hr hra (fun hf => by have := HPS.out.o1.lt _ hf; omega)
        have hkA : Fresh wr (wr.alloc (.cells #[.slice A k cA] 23)) := (Kept.refl _ _).alloc _
        have hraw := nRaw_any w.heap.size v1 (L.take j).flatten (some ⟨wr.heap.size, 0, none⟩) 1 1 [xj] _ (HPS.out.o1.kept hkA (fun _ _ => id)) hone (by omega) (by simp only [List.flatten_cons, List.flatten_nil, List.append_nil]; omega)
        have Hraw := Lib.hid hraw
        have Hft := Lib.hid hft
        have HPA := Lib.hid (HPS.out.new hkA)
        have Hb2 := Lib.hid hlj
        have Hr := Lib.hid hr
        have Hkl := Lib.hid hkl
        have Horig := Lib.hid (And.intro hc' hr')
        have hij0 : (0 : Int) ≤ (j : Int) := by omega
        have hij1 : (j : Int) < (m : Int) := by omega
        clear hraw hft hlj hone hr hr' hc' hkl hA hra hkA
        go_wp2_with fail
        refine Hraw.out.mono ?_
        rintro e w1 ⟨rfl, hn1⟩
        obtain ⟨v1', hp1⟩ := HPA.out.step1 hn1
        have hc1 := (hp1.fr.cell (p := ⟨b, o + j, none⟩) hb id).trans Horig.out.1
        have hr1 := Horig.out.2.kept hp1.fr (fun _ _ _ _ => id)
        have HP1 := Lib.hid hp1
        clear hn1 hp1 hc
        go_wp2_with (at_builtin; refine wpList_app _ rfl (.tmp 32) (.tmp 36) 23 rfl 5 i0 .u8 1 Try.underlying23 hi hz0 hz1 hz2 _ _ rfl HP1.out.oa A k cA _ rfl hr1 (by unfold maxLen; have := Hb2.out; have := Hkl.out; omega) (by have := Hb2.out; have := Hkl.out; omega) ?_)
        intro va' w2 hown hg hat
        have hp2 := HP1.out.stepA hown hg hat
        have hp3 : PS w w2 w.heap.size (w.heap.size + 1) v1' v2 va' (L.take (j + 1)).flatten [] (L.take (j + 1)).flatten := by
          rw [Hft.out]
          simpa using hp2
        have HP3 := Lib.hid hp3
        clear hown hg hat hp2 hp3 hr1 hc1
        go_wp2_with fail
        go_roundw
        case rel => exact ⟨j + 1, v1', v2, by omega, by go_num, HP3.out⟩
        case measure => simp [intOf]; omega
      · obtain rfl : j = m := by omega
        have hps := HPS.out
        rw [List.take_of_length_le (by rw [Hlen.out.1]; omega)] at hps
        have hpx := (HP.out.kept hps.fr (fun _ _ _ => id)).weaken (F' := NFoot (w.heap.size + 1) v2) hps.n2
        have hraw := nRaw_any (w.heap.size + 1) v2 [] P j c L _ hps.o2 hpx (by omega) (by rw [List.length_nil]; omega)
        have Hraw := Lib.hid hraw
        have HPs := Lib.hid hps
        clear hpx hraw hps HPS H0
        go_wp2_with fail
        refine Hraw.out.mono ?_
        rintro e w1 ⟨rfl, hn1⟩
        obtain ⟨v2', hp1⟩ := HPs.out.step2 hn1
        rw [List.nil_append] at hp1
        have HP1 := Lib.hid hp1
        clear hn1 hp1 HPs Hraw
        go_wp2_with fail
        obtain ⟨X, hX⟩ : ∃ X, X = L.flatten := ⟨_, rfl⟩
        rw [← hX] at hl
        have HX := Lib.hid hX
        have HP1' : Hid (PS w w1 w.heap.size (w.heap.size + 1) v1 v2' u7 X X X) := by have := HP1.out; rw [← hX] at this; exact Lib.hid this
        clear hX HP1
        go_loopw [9] (fun i wr => ∃ (k : Nat) (v1 v2 : Value), k ≤ n ∧ i = .int .i64 k ∧ PS w wr w.heap.size (w.heap.size + 1) v1 v2 u7 (X ++ svs (N.take k)) (X ++ svs (N.take k)) X) (fun i _ => (n - intOf i).toNat)
        case atStart => exact ⟨0, _, _, by omega, rfl, by simpa [svs] using HP1'.out⟩
        case round =>
          obtain ⟨k, v1, v2, hk, rfl, hps⟩ := hrel
          have HPS := Lib.hid hps
          clear hps HP1'
          by_cases hlt2 : k < n
          · obtain ⟨b, o, rfl, hb, hc'⟩ := HV.out.at_ k hlt2
            have hc := (HPS.out.fr.cell (p := ⟨b, o + k, none⟩) hb id).trans hc'
            have hkl : k < N.length := by rw [Hlen.out.2]; exact hlt2
            have hbd := HN.out _ (getD_mem hkl)
            have hst := svs_take hkl
            have hlen := svs_len (N.take k) (fun x hx => HN.out x (List.mem_of_mem_take hx))
            rw [List.length_take, Nat.min_eq_left (by omega)] at hlen
            have Horig := Lib.hid hc'
            generalize N.getD k 0 = xk at *
            obtain ⟨x, rfl⟩ := Int.eq_ofNat_of_zero_le hbd.1
            have hx : x < 18446744073709551616 := by omega
            rw [Int.toNat_natCast] at hst
            have Hst := Lib.hid hst
            have hnum := nNum_any w.heap.size v1 (X ++ svs (N.take k)) x _ HPS.out.o1 hx (by rw [List.length_append]; omega)
            have Hnum := Lib.hid hnum
            have Hlx := Lib.hid hlen
            have hij0 : (0 : Int) ≤ (k : Int) := by omega
            have hij1 : (k : Int) < (n : Int) := by omega
            clear hnum hst hlen hbd hkl hc'
            go_wp2_with fail
            refine Hnum.out.mono ?_
            rintro e w2 ⟨rfl, hn1⟩
            obtain ⟨v1', hp1⟩ := HPS.out.step1 hn1
            have hc2 := (hp1.fr.cell (p := ⟨b, o + k, none⟩) hb id).trans Horig.out
            have hnum2 := nNum_any (w.heap.size + 1) v2 (X ++ svs (N.take k)) x _ hp1.o2 hx (by rw [List.length_append]; have := Hlx.out; omega)
            have Hnum2 := Lib.hid hnum2
            have HP1 := Lib.hid hp1
            clear hnum2 hn1 hp1 hc
            go_wp2_with fail
            refine Hnum2.out.mono ?_
            rintro e w3 ⟨rfl, hn2⟩
            obtain ⟨v2', hp2⟩ := HP1.out.step2 hn2
            have hp3 : PS w w3 w.heap.size (w.heap.size + 1) v1' v2' u7 (X ++ svs (N.take (k + 1))) (X ++ svs (N.take (k + 1))) X := by
              rw [Hst.out]
              simpa using hp2
            have HP3 := Lib.hid hp3
            clear hp2 hp3 hn2 hc2
            go_wp2_with fail
            go_roundw
            case rel => exact ⟨k + 1, v1', v2', by omega, by go_num, HP3.out⟩
            case measure => simp [intOf]; omega
          · obtain rfl : k = n := by omega
            have hps := HPS.out
            rw [List.take_of_length_le (by rw [Hlen.out.2]; omega)] at hps
            have hsl := svs_len N HN.out
            rw [Hlen.out.2] at hsl
            have hbyX : ∀ x ∈ X, 0 ≤ x ∧ x < 256 := by
              rw [HX.out]
              intro x hx
              obtain ⟨l, hl1, hl2⟩ := List.mem_flatten.1 hx
              exact HL.out l hl1 x hl2
            have hbyS := svs_byte N
            generalize svs N = Sv at *
            have hbyY : ∀ x ∈ X ++ Sv, 0 ≤ x ∧ x < 256 := by
              intro x hx
              rcases List.mem_append.1 hx with h | h
              · exact hbyX x h
              · exact hbyS x h
            have hlenY : (X ++ Sv).length = X.length + Sv.length := List.length_append
            have htake : (X ++ Sv).take X.length = X := by simp
            generalize X ++ Sv = Y at *
            have HPS' := Lib.hid hps
            have HB := Lib.hid (And.intro hbyX hbyY)
            have HT := Lib.hid (And.intro hlenY htake)
            have hYs : Y.length ≤ 2000000 := by omega
            have hXY : X.length ≤ Y.length := by omega
            clear hps HPS hbyX hbyS hbyY hlenY htake hsl
            go_wp2_with fail
            refine (nBytes_any _ _ _ _ HPS'.out.o1 (by omega)).mono ?_
            rintro e w2 ⟨u, rfl, hownb, _, hk2⟩
            have hp2 := HPS'.out.new hk2
            obtain ⟨Ab, cb, rfl, hrb, _⟩ := hownb.row
            have hcb := hownb.cap
            have HP2 := Lib.hid hp2
            have HRB := Lib.hid hrb
            clear hp2 hk2 hrb hownb HPS'
            go_wp2_with fail
            refine (nAwake_any _).mono ?_
            rintro e w3 ⟨rfl, hk3⟩
            have hp3 := HP2.out.new hk3
            have hrb3 := HRB.out.kept hk3 (fun _ _ _ _ => id)
            have HP3 := Lib.hid hp3
            have HRB3 := Lib.hid hrb3
            clear hp3 hrb3 hk3 HP2 HRB
            go_wp2_with fail
            refine (nBytes_any _ _ _ _ HP3.out.o2 (by omega)).mono ?_
            rintro e w4 ⟨u, rfl, hownc, _, hk4⟩
            have hp4 := HP3.out.new hk4
            obtain ⟨Ac, cc, rfl, hrc, _⟩ := hownc.row
            have hrb4 := HRB3.out.kept hk4 (fun _ _ _ _ => id)
            have HP4 := Lib.hid hp4
            have HRB4 := Lib.hid (And.intro hrb4 hrc)
            clear hp4 hrb4 hrc hk4 HP3 HRB3 hownc
            go_wp2_with fail
            refine (hBytes_any Ab Ac _ _ cb cc Y Y _ HRB4.out.1 HRB4.out.2 HB.out.2 HB.out.2).mono ?_
            rintro e w5 ⟨rfl, rfl⟩
            have hdec : decide (Y = Y) = true := by simp
            rw [hdec]
            obtain ⟨Aa, ca, rfl, hra, _⟩ := HP4.out.oa.row
            have hsl : ∀ W, (Instr.slice 23 (.slice Ab Y.length cb) none (some (.int .i64 (min (X.length : Int) (Y.length : Int)))) none).run Try.prog W = .ok (.slice Ab X.length cb) W := fun W =>
              run_slice_to _ _ Try.underlying23 byte_size Ab Y.length cb X.length _ (by omega) (by omega) W
            have hrt := HRB4.out.1.take hXY
            rw [HT.out.2] at hrt
            have HR := Lib.hid (And.intro hrt hra)
            have hge : ¬ Y.length < X.length := by omega
            clear hrt hra hdec
            go_wp2_with fail
            refine (hBytes_any Ab Aa _ _ cb ca X X _ HR.out.1 HR.out.2 HB.out.1 HB.out.1).mono ?_
            rintro e w5 ⟨rfl, rfl⟩
            have hdec : decide (X = X) = true := by simp
            rw [hdec]
            clear hdec
            go_wp2_with fail
            go_ret
            exact ⟨rfl, HP4.out.fr.toBelow⟩
  · have hawake : (50 : Int) < m ∨ (¬ (50 : Int) < m ∧ (50 : Int) < n) := by omega
    clear hsmall
    rcases hawake with hg1 | ⟨hg1, hg2⟩
    all_goals
      go_enter Try.func5, Try.ntmps5
      go_wp2_with fail
      refine (nAwake_any _).mono ?_
      rintro e w' ⟨rfl, hk⟩
      go_wp2
      go_ret
      exact ⟨rfl, hk.toBelow⟩

theorem contract (H : Type) (enc : TypeId × Value → H) (W : World) (base : Nat) (args : Array Value) (ds gs : List (DataW H)) (before : List MemPlace)
    (hval0 : ∀ (j : Nat) t v, Try.f5.params[j]? = some t → args[j]? = some v → Value.okWide Try.prog W .any base t v)
    (hW : DataW.Whole enc Try.prog Try.f5.params.toList Rows.numPartsSpec.vars false W args.toList ds gs before) (hk : Rows.uptoSmall H (ds ++ gs) = true) :
    Calls Try.prog 5 args W fun e W' => ∃ v, e = .returned v ∧ Rows.numPartsSpec.post enc Try.prog Try.f5 false true false false W args v W' := by
  have hval : ∀ (j : Nat) t v, Try.f5.params[j]? = some t → args[j]? = some v → Value.okWide Try.prog W .any base t v := hval0
  have hpost : ∀ W', Below W.heap.size W W' → Rows.numPartsSpec.post enc Try.prog Try.f5 false true false false W args (.bool true) W' := fun W' hb =>
    law_post (by kernel_rfl) Try.underlying4 (by kernel_rfl) rfl (fun ds hl => match ds, hl with | [d1, d2], _ => ⟨rfl, rfl, rfl⟩) hW hb
  obtain ⟨p, q, hA0, hV, rfl, hfz, hnd⟩ := hW
  have hA : DataW.TrodAll enc Try.prog W 0 (fun _ => true) true Try.f5.params.toList args.toList ds p := hA0
  rw [Try.params5] at hA hval
  obtain ⟨v0, vs0, d0, ds0, p0, q0, hargs, rfl, rfl, h0, r0⟩ := trodAll_cons hA
  obtain ⟨v1, vs1, d1, ds1, p1, q1, rfl, rfl, rfl, h1, r1⟩ := trodAll_cons r0
  obtain ⟨rfl, rfl, rfl⟩ := trodAll_nil r1
  obtain rfl : args = #[v0, v1] := by cases args; simp_all
  obtain ⟨rfl, rfl⟩ := trodVars_none hV
  have hbulk : Rows.uptoBulkAll ([d0, d1] ++ []) ≤ 1048576 := of_decide_eq_true hk
  simp only [List.append_nil, Rows.uptoBulkAll] at hbulk
  obtain ⟨P, m, c, L, rfl, hnil, hm, hp, hL, hlb⟩ := open_texts Try.underlying48 Try.underlying23 Try.underlying5 (by kernel_rfl) (by kernel_rfl) (hval 0 48 v0 rfl rfl) h0
  obtain ⟨V, n, d, N, rfl, _, hv, hwx, hn⟩ := open_row Try.underlying49 Try.underlying22 (by kernel_rfl) (hval 1 49 v1 rfl rfl) h1
  exact (walk P m c L V n d N W hp hL (by omega) hv (fun x hx => by have := bounds_u64 (hwx x hx); omega) hm hn).mono fun e W' ⟨he, hb⟩ => ⟨_, he, hpost W' hb⟩

set_option maxRecDepth 100000 in
theorem lifted (os : Os) (started : os.Started) (H : Type) (enc : TypeId × Value → H) (F : Stop.Interp) :
    ReturnsInHanded {} Try.checked os 5 .any ((Rows.OpenSpec.upto Rows.numPartsSpec).pre6 enc Try.prog Try.f5 Rows.numPartsUptoRow.domain false) (((Rows.OpenSpec.upto Rows.numPartsSpec).at F).post enc Try.prog Try.f5 false true false false) := by
  refine returnsInHanded_of_cond (C := Try.checked) (s := Rows.OpenSpec.upto Rows.numPartsSpec) (k := Rows.uptoSmall) rfl Try.own started (by kernel_rfl) Try.func5
    (OpenSpec.witness (enc := enc) (C := Try.checked) (s := Rows.OpenSpec.upto Rows.numPartsSpec) (k := Rows.uptoSmall) rfl false ⟨#[], #[.slice none 0 0, .slice none 0 0], []⟩ 8 (by kernel_rfl) (by kernel_rfl) (by kernel_rfl)
      (x := ([.nil, .nil], [], [])) (by kernel_rfl) rfl (by kernel_rfl)) ?_
  intro W base args ds gs before hval hW _ hk _
  exact contract H enc W base args ds gs before hval hW hk

/-- The statement, in its second form. -/
theorem proved : Rows.NumPartsUptoSaid :=
  OpenClaim.holds_of_cond 5 Try.f5 rfl rfl rfl rfl rfl rfl rfl ⟨rfl, rfl, rfl, rfl, rfl⟩ rfl rfl rfl rfl rfl (by kernel_rfl) Try.func5 (by kernel_rfl)
    (of_decide_eq_true (by kernel_rfl)) (by unfold Func.isWrapper; first | (rw [if_pos (by decide +kernel)]; kernel_rfl) | (rw [if_neg (by decide +kernel)]; exact ⟨rfl, rfl⟩))
    (fun os started H enc _ F => lifted os started H enc F)
#print axioms proved

end Go.Proofs.Ytpilmeklmanjeaa.numParts
