/- Texts of this proof, one behind the other: ModRun, StrCost. -/
import Derived.Test.YtpknbfkknnaajaaDoorPart4

/- A byte that comes again and again: each of its bits is likely, behind 60 of it. -/
namespace Go.Proofs.YtpknbfkknnaajaaDoor

def ps0 : Ps := ⟨32768, 32768, 32768, fun _ => 16384, fs⟩
/-- A place, as the bytes come: z: the byte is 0; sp: the third guess has been learnt elsewhere. -/
def Ps.fix (z sp : Bool) (i : Nat) (p : Ps) : Ps := if z then p else if i = 0 then { p with b := 32768, c := 32768 } else if i = 1 then { p with c := if sp then 28672 else 32768 } else p
def traj (lv : Nat) (one z sp : Bool) : Nat → Ps
  | 0 => ps0
  | i + 1 => ((traj lv one z sp i).learn lv one).fix z sp i
theorem fix_a (z sp : Bool) (i : Nat) (p : Ps) : (p.fix z sp i).a = p.a := by unfold Ps.fix; (repeat' split) <;> rfl
theorem fix_W (z sp : Bool) (i : Nat) (p : Ps) : (p.fix z sp i).W = p.W := by unfold Ps.fix; (repeat' split) <;> rfl
theorem fix_T (z sp : Bool) (i : Nat) (p : Ps) : (p.fix z sp i).T = p.T := by unfold Ps.fix; (repeat' split) <;> rfl
/-- The guesses of the second and the third context, by themselves. -/
def sb (one z : Bool) : Nat → Nat
  | 0 => 32768
  | i + 1 => if z = false ∧ i = 0 then 32768 else nx (sb one z i) one 4
def sc (one z sp : Bool) : Nat → Nat
  | 0 => 32768
  | i + 1 => if z = false ∧ i = 0 then 32768 else if z = false ∧ i = 1 then (if sp then 28672 else 32768) else nx (sc one z sp i) one 3
theorem traj_b {lv : Nat} (h : lv ≠ 0) (one z sp : Bool) : ∀ i, (traj lv one z sp i).b = sb one z i
  | 0 => rfl
  | i + 1 => by
    have hi := traj_b h one z sp i
    show (((traj lv one z sp i).learn lv one).fix z sp i).b = if z = false ∧ i = 0 then 32768 else nx (sb one z i) one 4
    have hl : ((traj lv one z sp i).learn lv one).b = nx (sb one z i) one 4 := by
      simp [Ps.learn, hi, h]
    unfold Ps.fix
    cases z
    · by_cases h0 : i = 0
      · simp [h0]
      · by_cases h1 : i = 1
        · subst h1; simp [hl]
        · simp [h0, h1, hl]
    · simp [hl]
theorem traj_c (one z sp : Bool) : ∀ i, (traj 2 one z sp i).c = sc one z sp i
  | 0 => rfl
  | i + 1 => by
    have hi := traj_c one z sp i
    show (((traj 2 one z sp i).learn 2 one).fix z sp i).c = if z = false ∧ i = 0 then 32768 else if z = false ∧ i = 1 then (if sp then 28672 else 32768) else nx (sc one z sp i) one 3
    have hl : ((traj 2 one z sp i).learn 2 one).c = nx (sc one z sp i) one 3 := by
      simp [Ps.learn, hi]
    unfold Ps.fix
    cases z
    · by_cases h0 : i = 0
      · simp [h0]
      · by_cases h1 : i = 1
        · subst h1; simp
        · simp [h0, h1, hl]
    · simp [hl]

/-- How often place j was met ahead of t. -/
def met (j t : Nat) : Nat := (t + 7 - j) / 8
theorem met_own (t : Nat) : met (t % 8) t = t / 8 := by unfold met; omega
theorem met_next {j : Nat} (hj : j < 8) (t : Nat) : met j (t + 1) = met j t + if j = t % 8 then 1 else 0 := by
  unfold met; split <;> omega

theorem lst_c {c t : Nat} (h : c = 0 ∨ 16 ≤ t) : lst c (t / 8) = c := by unfold lst; split <;> omega
theorem old_c {c t : Nat} (h : c = 0 ∨ 16 ≤ t) : old c (t / 8) = c := by unfold old; split <;> omega
theorem key3_ne {o l p q : Nat} (hp : p < 256) (hq : q < 256) (h : p ≠ q) : key3 o l p ≠ key3 o l q := by unfold key3; omega
theorem key2_ne {l p q : Nat} (h : p ≠ q) : key2 l p ≠ key2 l q := by unfold key2; omega

theorem tabB_later {c : Nat} (hc : c < 256) (t0 : Nat) (h0 : c = 0 ∨ 16 ≤ t0) (hb : ∀ j, j < 8 → tabB c t0 (key2 c (prt c j)) = sb (bit c j) (Nat.beq c 0) (met j t0)) :
    ∀ s j, j < 8 → tabB c (t0 + s) (key2 c (prt c j)) = sb (bit c j) (Nat.beq c 0) (met j (t0 + s))
  | 0 => hb
  | s + 1 => fun j hj => by
    have ih := tabB_later hc t0 h0 hb s
    have hl : lst c ((t0 + s) / 8) = c := lst_c (by omega)
    have hk : (t0 + s) % 8 < 8 := by omega
    have hm := met_next hj (t0 + s)
    have hz : ¬ ((Nat.beq c 0) = false ∧ met j (t0 + s) = 0) := by
      rintro ⟨h1, h2⟩
      rcases h0 with rfl | h0
      · cases h1
      · unfold met at h2; omega
    show upd (tabB c (t0 + s)) (key2 (lst c ((t0 + s) / 8)) (prt c ((t0 + s) % 8))) (nx (tabB c (t0 + s) (key2 (lst c ((t0 + s) / 8)) (prt c ((t0 + s) % 8)))) (bit c ((t0 + s) % 8)) 4) (key2 c (prt c j)) = sb (bit c j) (Nat.beq c 0) (met j (t0 + s + 1))
    rw [hl, hm]
    by_cases e : j = (t0 + s) % 8
    · rw [if_pos e, ← e, upd_at, ih j hj]
      show _ = if (Nat.beq c 0) = false ∧ met j (t0 + s) = 0 then 32768 else nx (sb (bit c j) (Nat.beq c 0) (met j (t0 + s))) (bit c j) 4
      rw [if_neg hz]
    · rw [if_neg e, upd_ne (key2_ne ((prt_all hc hk).2.2.2 j hj e)), ih j hj, Nat.add_zero]
theorem tabC_later {c : Nat} (hc : c < 256) (t0 : Nat) (h0 : c = 0 ∨ 16 ≤ t0) (hb : ∀ j, j < 8 → tabC c t0 (key3 c c (prt c j)) = sc (bit c j) (Nat.beq c 0) (spec c j) (met j t0)) :
    ∀ s j, j < 8 → tabC c (t0 + s) (key3 c c (prt c j)) = sc (bit c j) (Nat.beq c 0) (spec c j) (met j (t0 + s))
  | 0 => hb
  | s + 1 => fun j hj => by
    have ih := tabC_later hc t0 h0 hb s
    have hl : lst c ((t0 + s) / 8) = c := lst_c (by omega)
    have ho : old c ((t0 + s) / 8) = c := old_c (by omega)
    have hk : (t0 + s) % 8 < 8 := by omega
    have hm := met_next hj (t0 + s)
    have hz : ¬ ((Nat.beq c 0) = false ∧ met j (t0 + s) = 0) ∧ ¬ ((Nat.beq c 0) = false ∧ met j (t0 + s) = 1) := by
      refine ⟨?_, ?_⟩
      all_goals
        rintro ⟨h1, h2⟩
        rcases h0 with rfl | h0
        · cases h1
        · unfold met at h2; omega
    show upd (tabC c (t0 + s)) (key3 (old c ((t0 + s) / 8)) (lst c ((t0 + s) / 8)) (prt c ((t0 + s) % 8))) (nx (tabC c (t0 + s) (key3 (old c ((t0 + s) / 8)) (lst c ((t0 + s) / 8)) (prt c ((t0 + s) % 8)))) (bit c ((t0 + s) % 8)) 3) (key3 c c (prt c j)) = sc (bit c j) (Nat.beq c 0) (spec c j) (met j (t0 + s + 1))
    rw [hl, ho, hm]
    by_cases e : j = (t0 + s) % 8
    · rw [if_pos e, ← e, upd_at, ih j hj]
      show _ = if (Nat.beq c 0) = false ∧ met j (t0 + s) = 0 then 32768 else if (Nat.beq c 0) = false ∧ met j (t0 + s) = 1 then (if spec c j then 28672 else 32768) else nx (sc (bit c j) (Nat.beq c 0) (spec c j) (met j (t0 + s))) (bit c j) 3
      rw [if_neg hz.1, if_neg hz.2]
    · rw [if_neg e, upd_ne (key3_ne (prt_all hc hj).1 (prt_all hc hk).1 ((prt_all hc hk).2.2.2 j hj e)), ih j hj, Nat.add_zero]

theorem readB {c : Nat} (hc : c < 256) (t : Nat) : tabB c t (key2 (lst c (t / 8)) (prt c (t % 8))) = sb (bit c (t % 8)) (Nat.beq c 0) (t / 8) := by
  have hk : t % 8 < 8 := by omega
  by_cases h0 : c = 0
  · have := tabB_later hc 0 (.inl h0) (fun j hj => by rw [show met j 0 = 0 by unfold met; omega]; rfl) t (t % 8) hk
    rw [Nat.zero_add, met_own] at this
    rw [lst_c (.inl h0)]; exact this
  · have hz : Nat.beq c 0 = false := by rw [Bool.eq_false_iff]; exact fun h => h0 (Nat.eq_of_beq_eq_true h)
    by_cases h16 : t < 16
    · rw [((head_all hc h0).1 t h16).1, hz]
      have : t / 8 = 0 ∨ t / 8 = 1 := by omega
      rcases this with e | e <;> rw [e] <;> rfl
    · have := tabB_later hc 16 (.inr (by omega)) (fun j hj => by
        rw [((head_all hc h0).2 j hj).1, hz, show met j 16 = 2 by unfold met; omega]; rfl) (t - 16) (t % 8) hk
      rw [show 16 + (t - 16) = t by omega, met_own] at this
      rw [lst_c (.inr (by omega))]; exact this
theorem readC {c : Nat} (hc : c < 256) (t : Nat) : tabC c t (key3 (old c (t / 8)) (lst c (t / 8)) (prt c (t % 8))) = sc (bit c (t % 8)) (Nat.beq c 0) (spec c (t % 8)) (t / 8) := by
  have hk : t % 8 < 8 := by omega
  by_cases h0 : c = 0
  · have := tabC_later hc 0 (.inl h0) (fun j hj => by rw [show met j 0 = 0 by unfold met; omega]; rfl) t (t % 8) hk
    rw [Nat.zero_add, met_own] at this
    rw [lst_c (.inl h0), old_c (.inl h0)]; exact this
  · have hz : Nat.beq c 0 = false := by rw [Bool.eq_false_iff]; exact fun h => h0 (Nat.eq_of_beq_eq_true h)
    by_cases h16 : t < 16
    · rw [((head_all hc h0).1 t h16).2, hz]
      have : t / 8 = 0 ∨ t / 8 = 1 := by omega
      rcases this with e | e <;> rw [e] <;> rfl
    · have := tabC_later hc 16 (.inr (by omega)) (fun j hj => by
        rw [((head_all hc h0).2 j hj).2, hz, show met j 16 = 2 by unfold met; omega]; rfl) (t - 16) (t % 8) hk
      rw [show 16 + (t - 16) = t by omega, met_own] at this
      rw [lst_c (.inr (by omega)), old_c (.inr (by omega))]; exact this

/-- The model behind t bits. -/
def run (lv c : Nat) : Nat → Mo
  | 0 => mo0
  | t + 1 => (run lv c t).learn lv (bit c (t % 8))
theorem run_ctx {c : Nat} (hc : c < 256) (lv : Nat) : ∀ t, (run lv c t).part = prt c (t % 8) ∧ (run lv c t).last = lst c (t / 8) ∧ (run lv c t).older = old c (t / 8)
  | 0 => by
    refine ⟨?_, rfl, rfl⟩
    show 1 = 2 ^ 0 + c / 2 ^ 8
    have : c / 2 ^ 8 = 0 := by omega
    rw [this]
  | t + 1 => by
    obtain ⟨h1, h2, h3⟩ := run_ctx hc lv t
    have hk : t % 8 < 8 := by omega
    obtain ⟨p1, p2, p3, _⟩ := prt_all hc hk
    show nextPart (run lv c t).part (bit c (t % 8)) = _ ∧ nextLast (run lv c t).part (run lv c t).last (bit c (t % 8)) = _ ∧ nextOlder (run lv c t).part (run lv c t).last (run lv c t).older (bit c (t % 8)) = _
    rw [h1, h2, h3]
    unfold nextPart nextLast nextOlder
    by_cases e : t % 8 = 7
    · have := p2 e
      rw [if_pos (by omega), if_pos (by omega), if_pos (by omega), show (t + 1) % 8 = 0 by omega, show (t + 1) / 8 = t / 8 + 1 by omega]
      refine ⟨?_, ?_, ?_⟩
      · show 1 = 2 ^ 0 + c / 2 ^ 8
        have : c / 2 ^ 8 = 0 := by omega
        rw [this]
      · unfold lst; rw [if_neg (by omega)]; omega
      · unfold lst old
        by_cases h0 : t / 8 = 0
        · rw [if_pos h0, if_pos (by omega)]
        · rw [if_neg h0, if_neg (by omega)]
    · have h4 := p3 e
      have h5 := (prt_all hc (show t % 8 + 1 < 8 by omega)).1
      rw [if_neg (by omega), if_neg (by omega), if_neg (by omega), show (t + 1) % 8 = t % 8 + 1 by omega, show (t + 1) / 8 = t / 8 by omega]
      exact ⟨h4, rfl, rfl⟩
theorem run_B {c lv : Nat} (hc : c < 256) (h : lv ≠ 0) : ∀ t, (run lv c t).B = tabB c t
  | 0 => rfl
  | t + 1 => by
    obtain ⟨h1, h2, h3⟩ := run_ctx hc lv t
    have ih := run_B hc h t
    show (if lv = 0 then _ else upd (run lv c t).B (run lv c t).two ((run lv c t).now.learn lv (bit c (t % 8))).b) = upd (tabB c t) _ _
    have hb : ((run lv c t).now.learn lv (bit c (t % 8))).b = nx ((run lv c t).B (run lv c t).two) (bit c (t % 8)) 4 := by
      show (if lv = 0 then _ else _) = _
      rw [if_neg h]; rfl
    rw [if_neg h, hb, ih]
    unfold Mo.two
    rw [h1, h2]
theorem run_C {c : Nat} (hc : c < 256) : ∀ t, (run 2 c t).C = tabC c t
  | 0 => rfl
  | t + 1 => by
    obtain ⟨h1, h2, h3⟩ := run_ctx hc 2 t
    have ih := run_C hc t
    show upd (run 2 c t).C (run 2 c t).three (nx ((run 2 c t).C (run 2 c t).three) (bit c (t % 8)) 3) = upd (tabC c t) _ _
    rw [ih]
    unfold Mo.three
    rw [h1, h2, h3]

/-- Two places that tell and learn alike. -/
structure Alike (lv : Nat) (p q : Ps) : Prop where
  a : p.a = q.a
  b : lv ≠ 0 → p.b = q.b
  c : lv = 2 → p.c = q.c
  W : lv ≠ 0 → p.W = q.W
  T : lv ≠ 0 → p.T = q.T
theorem Alike.ins {lv : Nat} {p q : Ps} (h : Alike lv p q) (h0 : lv ≠ 0) : ins lv p.a p.b p.c = ins lv q.a q.b q.c := by
  unfold Go.Proofs.YtpknbfkknnaajaaDoor.ins
  rw [h.a, h.b h0]
  by_cases e : lv = 2
  · rw [h.c e]
  · rw [if_neg e, if_neg e]
theorem Alike.t {lv : Nat} {p q : Ps} (h : Alike lv p q) (h0 : lv ≠ 0) : p.t lv = q.t lv := by
  unfold Ps.t; rw [h.ins h0, h.W h0]
theorem Alike.chance {lv : Nat} {p q : Ps} (h : Alike lv p q) : p.chance lv = q.chance lv := by
  unfold Ps.chance
  by_cases e : lv = 0
  · rw [if_pos e, if_pos e, h.a]
  · rw [if_neg e, if_neg e, h.t e, h.T e]
theorem Alike.la {lv : Nat} {p q : Ps} (h : Alike lv p q) (one : Bool) : (p.learn lv one).a = (q.learn lv one).a := by
  show nx p.a one 4 = nx q.a one 4
  rw [h.a]
theorem Alike.lW {lv : Nat} {p q : Ps} (h : Alike lv p q) (h0 : lv ≠ 0) (one : Bool) : (p.learn lv one).W = (q.learn lv one).W := by
  show (if lv = 0 then p.W else lrnW p.W (inp (Go.Proofs.YtpknbfkknnaajaaDoor.ins lv p.a p.b p.c)) (er one (p.t lv))) = if lv = 0 then q.W else lrnW q.W (inp (Go.Proofs.YtpknbfkknnaajaaDoor.ins lv q.a q.b q.c)) (er one (q.t lv))
  rw [if_neg h0, if_neg h0, h.ins h0, h.t h0, h.W h0]
theorem Alike.lT {lv : Nat} {p q : Ps} (h : Alike lv p q) (h0 : lv ≠ 0) (one : Bool) : (p.learn lv one).T = (q.learn lv one).T := by
  show (if lv = 0 then p.T else upd p.T (nr (sx (p.t lv))) (lr one 6 (p.T (nr (sx (p.t lv)))))) = if lv = 0 then q.T else upd q.T (nr (sx (q.t lv))) (lr one 6 (q.T (nr (sx (q.t lv)))))
  rw [if_neg h0, if_neg h0, h.t h0, h.T h0]

/-- The place's own way. -/
abbrev way (lv c j : Nat) (i : Nat) : Ps := traj lv (bit c j) (Nat.beq c 0) (spec c j) i
theorem way_succ (lv c j i : Nat) : (way lv c j (i + 1)).a = ((way lv c j i).learn lv (bit c j)).a ∧ (way lv c j (i + 1)).W = ((way lv c j i).learn lv (bit c j)).W ∧ (way lv c j (i + 1)).T = ((way lv c j i).learn lv (bit c j)).T :=
  ⟨fix_a _ _ _ _, fix_W _ _ _ _, fix_T _ _ _ _⟩
/-- What is asked of now is the place's own way; and all places are on theirs. -/
theorem run_way {c : Nat} (hc : c < 256) {lv : Nat} (hlv : lv ≤ 2) : ∀ t, (∀ j, j < 8 → (run lv c t).A (prt c j) = (way lv c j (met j t)).a ∧ (lv ≠ 0 → (run lv c t).W (prt c j) = (way lv c j (met j t)).W ∧ (run lv c t).T (prt c j) = (way lv c j (met j t)).T)) ∧
    Alike lv (run lv c t).now (way lv c (t % 8) (t / 8)) := by
  have step : ∀ t, (∀ j, j < 8 → (run lv c t).A (prt c j) = (way lv c j (met j t)).a ∧ (lv ≠ 0 → (run lv c t).W (prt c j) = (way lv c j (met j t)).W ∧ (run lv c t).T (prt c j) = (way lv c j (met j t)).T)) → Alike lv (run lv c t).now (way lv c (t % 8) (t / 8)) := by
    intro t h
    obtain ⟨h1, h2, h3⟩ := run_ctx hc lv t
    have hk : t % 8 < 8 := by omega
    have hj := h (t % 8) hk
    rw [met_own] at hj
    refine ⟨?_, fun h0 => ?_, fun h0 => ?_, fun h0 => ?_, fun h0 => ?_⟩
    · show (run lv c t).A (run lv c t).part = _
      rw [h1]; exact hj.1
    · show (run lv c t).B (run lv c t).two = _
      unfold Mo.two
      rw [h1, h2, run_B hc h0, readB hc, traj_b h0]
    · subst h0
      show (run 2 c t).C (run 2 c t).three = _
      unfold Mo.three
      rw [h1, h2, h3, run_C hc, readC hc, traj_c]
    · show (run lv c t).W (run lv c t).part = _
      rw [h1]; exact (hj.2 h0).1
    · show (run lv c t).T (run lv c t).part = _
      rw [h1]; exact (hj.2 h0).2
  intro t
  induction t with
  | zero =>
    have h : ∀ j, j < 8 → (run lv c 0).A (prt c j) = (way lv c j (met j 0)).a ∧ (lv ≠ 0 → (run lv c 0).W (prt c j) = (way lv c j (met j 0)).W ∧ (run lv c 0).T (prt c j) = (way lv c j (met j 0)).T) := by
      intro j hj
      rw [show met j 0 = 0 by unfold met; omega]
      exact ⟨rfl, fun _ => ⟨rfl, rfl⟩⟩
    exact ⟨h, step 0 h⟩
  | succ t ih =>
    obtain ⟨ih, al⟩ := ih
    have h : ∀ j, j < 8 → (run lv c (t + 1)).A (prt c j) = (way lv c j (met j (t + 1))).a ∧ (lv ≠ 0 → (run lv c (t + 1)).W (prt c j) = (way lv c j (met j (t + 1))).W ∧ (run lv c (t + 1)).T (prt c j) = (way lv c j (met j (t + 1))).T) := by
      intro j hj
      obtain ⟨h1, h2, h3⟩ := run_ctx hc lv t
      have hk : t % 8 < 8 := by omega
      have hm := met_next hj t
      have hA : (run lv c (t + 1)).A = upd (run lv c t).A (prt c (t % 8)) ((run lv c t).now.learn lv (bit c (t % 8))).a := by rw [← h1]; rfl
      have hW : lv ≠ 0 → (run lv c (t + 1)).W = upd (run lv c t).W (prt c (t % 8)) ((run lv c t).now.learn lv (bit c (t % 8))).W := fun h0 => by
        rw [← h1]; show (if lv = 0 then _ else _) = _; rw [if_neg h0]
      have hT : lv ≠ 0 → (run lv c (t + 1)).T = upd (run lv c t).T (prt c (t % 8)) ((run lv c t).now.learn lv (bit c (t % 8))).T := fun h0 => by
        rw [← h1]; show (if lv = 0 then _ else _) = _; rw [if_neg h0]
      by_cases e : j = t % 8
      · rw [if_pos e] at hm
        have hown : met j t = t / 8 := by rw [e]; exact met_own t
        rw [hm, hown, hA, ← e, upd_at]
        rw [← e] at al hW hT
        obtain ⟨w1, w2, w3⟩ := way_succ lv c j (t / 8)
        refine ⟨by rw [al.la, w1], fun h0 => ⟨by rw [hW h0, upd_at, al.lW h0, w2], by rw [hT h0, upd_at, al.lT h0, w3]⟩⟩
      · rw [if_neg e, Nat.add_zero] at hm
        have hne := (prt_all hc hk).2.2.2 j hj e
        rw [hm, hA, upd_ne hne]
        exact ⟨(ih j hj).1, fun h0 => ⟨by rw [hW h0, upd_ne hne]; exact ((ih j hj).2 h0).1, by rw [hT h0, upd_ne hne]; exact ((ih j hj).2 h0).2⟩⟩
    exact ⟨h, step _ h⟩
theorem run_chance {c : Nat} (hc : c < 256) {lv : Nat} (hlv : lv ≤ 2) (t : Nat) : (run lv c t).chance lv = (way lv c (t % 8) (t / 8)).chance lv := (run_way hc hlv t).2.chance

/-- Behind 60 of it each bit is likely. -/
def likely (one : Bool) (p : Int) : Bool := if one then decide (3072 ≤ p) else decide (3072 ≤ 4096 - p)
theorem traj_likely : ∀ lv, lv < 3 → ∀ one z sp, likely one ((traj lv one z sp 60).chance lv) = true := by decide +kernel
theorem run_likely {c : Nat} (hc : c < 256) {lv : Nat} (hlv : lv ≤ 2) {t : Nat} (h1 : 480 ≤ t) (h2 : t < 488) : likely (bit c (t % 8)) ((run lv c t).chance lv) = true := by
  rw [run_chance hc hlv, show t / 8 = 60 by omega]
  exact traj_likely lv (by omega) _ _ _

end Go.Proofs.YtpknbfkknnaajaaDoor

/- What a byte that comes again and again costs: one place's own way, by stretches between states that are written out. -/
namespace Go.Proofs.YtpknbfkknnaajaaDoor

/-- Two states that are alike, as far as a model of this level looks. -/
structure Ps.Like (lv : Nat) (p q : Ps) : Prop where
  a : p.a = q.a
  b : lv ≠ 0 → p.b = q.b
  c : lv = 2 → p.c = q.c
  w : lv ≠ 0 → ∀ j, j < 4 → p.W j = q.W j
  t : lv ≠ 0 → ∀ k, k < 33 → p.T k = q.T k

section
variable {lv : Nat} {one : Bool} {p q : Ps}
theorem Ps.Like.refl (p : Ps) : p.Like lv p := ⟨rfl, fun _ => rfl, fun _ => rfl, fun _ _ _ => rfl, fun _ _ _ => rfl⟩
theorem Ps.Like.trans {r : Ps} (h : p.Like lv q) (k : q.Like lv r) : p.Like lv r := ⟨h.a.trans k.a, fun e => (h.b e).trans (k.b e), fun e => (h.c e).trans (k.c e), fun e j hj => (h.w e j hj).trans (k.w e j hj), fun e j hj => (h.t e j hj).trans (k.t e j hj)⟩
theorem Ps.Like.ins (h : p.Like lv q) (h0 : lv ≠ 0) : ins lv p.a p.b p.c = ins lv q.a q.b q.c := by
  unfold Go.Proofs.YtpknbfkknnaajaaDoor.ins
  rw [h.a, h.b h0]
  by_cases h2 : lv = 2
  · rw [h.c h2]
  · rw [if_neg h2, if_neg h2]
theorem Ps.Like.told (h : p.Like lv q) (h0 : lv ≠ 0) : p.t lv = q.t lv := by
  unfold Ps.t
  rw [h.ins h0]
  have e : ∀ I, dotTo I p.W 4 = dotTo I q.W 4 := fun I => by simp only [dotTo, h.w h0 0 (by omega), h.w h0 1 (by omega), h.w h0 2 (by omega), h.w h0 3 (by omega)]
  show sq (dotTo _ p.W 4 / 65536) = sq (dotTo _ q.W 4 / 65536)
  rw [e]
theorem rd_like {S T : Nat → Int} (h : ∀ k, k < 33 → S k = T k) {x : Nat} (hx : x ≤ 4095) : rd S x = rd T x := by
  unfold rd
  rw [h (x / 128) (by omega), h (x / 128 + 1) (by omega)]
theorem Ps.Like.chance (h : p.Like lv q) : p.chance lv = q.chance lv := by
  unfold Ps.chance
  by_cases h0 : lv = 0
  · rw [if_pos h0, if_pos h0, h.a]
  · rw [if_neg h0, if_neg h0, h.told h0, rd_like (h.t h0) (sx_bd _).2]
theorem Ps.Like.learn (h : p.Like lv q) : (p.learn lv one).Like lv (q.learn lv one) := by
  refine ⟨?_, fun h0 => ?_, fun h2 => ?_, fun h0 j hj => ?_, fun h0 k hk => ?_⟩
  · show nx p.a one 4 = nx q.a one 4
    rw [h.a]
  · show (if lv = 0 then p.b else nx p.b one 4) = (if lv = 0 then q.b else nx q.b one 4)
    rw [h.b h0]
  · show (if lv = 2 then nx p.c one 3 else p.c) = (if lv = 2 then nx q.c one 3 else q.c)
    rw [h.c h2]
  · show (if lv = 0 then p.W else lrnW p.W (inp (Go.Proofs.YtpknbfkknnaajaaDoor.ins lv p.a p.b p.c)) (er one (p.t lv))) j = (if lv = 0 then q.W else lrnW q.W (inp (Go.Proofs.YtpknbfkknnaajaaDoor.ins lv q.a q.b q.c)) (er one (q.t lv))) j
    rw [if_neg h0, if_neg h0, h.ins h0, h.told h0]
    unfold lrnW
    rw [if_pos hj, if_pos hj, h.w h0 j hj]
  · show (if lv = 0 then p.T else upd p.T (nr (sx (p.t lv))) (lr one 6 (p.T (nr (sx (p.t lv)))))) k = (if lv = 0 then q.T else upd q.T (nr (sx (q.t lv))) (lr one 6 (q.T (nr (sx (q.t lv)))))) k
    rw [if_neg h0, if_neg h0, h.told h0]
    unfold upd
    rw [h.t h0 _ (nr_lt (sx_bd (q.t lv)).2), h.t h0 k hk]
end

/-- A state, written out. -/
def psOf (a b c : Nat) (W T : List Int) : Ps := ⟨a, b, c, fun j => W.getD j 0, fun k => T.getD k 0⟩
/-- How likely the bit is, in 4,096ths. -/
def pr (lv : Nat) (one : Bool) (p : Ps) : Nat := if one then (p.chance lv).toNat else (4096 - p.chance lv).toNat
/-- n steps on: the product of the chances, and the state. -/
def goes (lv : Nat) (one : Bool) : Nat → Ps → Nat → Nat × Ps
  | 0, p, x => (x, p)
  | n + 1, p, x => goes lv one n (p.learn lv one) (x * pr lv one p)
def alikeB (lv : Nat) (p q : Ps) : Bool := Nat.beq p.a q.a && (Nat.beq lv 0 || Nat.beq p.b q.b && (!Nat.beq lv 2 || Nat.beq p.c q.c) && (List.range 4).all (fun j => decide (p.W j = q.W j)) && (List.range 33).all (fun k => decide (p.T k = q.T k)))
/-- One stretch: from state to state, and the product is x. -/
def legB (lv : Nat) (one : Bool) (n : Nat) (p : Ps) (x : Nat) (q : Ps) : Bool := Nat.beq (goes lv one n p 1).1 x && alikeB lv (goes lv one n p 1).2 q

theorem alike_like {lv : Nat} {p q : Ps} (h : alikeB lv p q = true) : p.Like lv q := by
  unfold alikeB at h
  simp only [Bool.and_eq_true, Bool.or_eq_true, Nat.beq_eq, List.all_eq_true, List.mem_range, decide_eq_true_eq, Bool.not_eq_true'] at h
  obtain ⟨ha, h⟩ := h
  refine ⟨ha, fun h0 => ?_, fun h2 => ?_, fun h0 => ?_, fun h0 => ?_⟩
  · rcases h with h | h
    · exact absurd h h0
    · exact h.1.1.1
  · rcases h with h | h
    · omega
    · rcases h.1.1.2 with e | e
      · subst h2; exact absurd e (by decide)
      · exact e
  · rcases h with h | h
    · exact absurd h h0
    · exact h.1.2
  · rcases h with h | h
    · exact absurd h h0
    · exact h.2

theorem pr_like {lv : Nat} {one : Bool} {p q : Ps} (h : p.Like lv q) : pr lv one p = pr lv one q := by unfold pr; rw [h.chance]
theorem goes_like {lv : Nat} {one : Bool} : ∀ (n : Nat) {p q : Ps} (x : Nat), p.Like lv q → (goes lv one n p x).1 = (goes lv one n q x).1 ∧ (goes lv one n p x).2.Like lv (goes lv one n q x).2
  | 0, _, _, _, h => ⟨rfl, h⟩
  | n + 1, p, q, x, h => by
    simp only [goes]
    rw [pr_like h]
    exact goes_like n _ h.learn
theorem goes_mul {lv : Nat} {one : Bool} : ∀ (n : Nat) (p : Ps) (x : Nat), goes lv one n p x = (x * (goes lv one n p 1).1, (goes lv one n p 1).2)
  | 0, p, x => by simp [goes]
  | n + 1, p, x => by
    simp only [goes]
    rw [goes_mul n _ (x * pr lv one p), goes_mul n _ (1 * pr lv one p)]
    simp [Nat.mul_assoc]
theorem goes_add {lv : Nat} {one : Bool} (m : Nat) : ∀ (n : Nat) (p : Ps) (x : Nat), goes lv one (n + m) p x = goes lv one m (goes lv one n p x).2 (goes lv one n p x).1
  | 0, p, x => by simp [goes]
  | n + 1, p, x => by
    rw [show n + 1 + m = (n + m) + 1 by omega]
    simp only [goes]
    exact goes_add m n _ _

/-- n steps from p on lead to S, and the product is X. -/
def Reached (lv : Nat) (one : Bool) (p : Ps) (n X : Nat) (S : Ps) : Prop := (goes lv one n p 1).1 = X ∧ (goes lv one n p 1).2.Like lv S
theorem Reached.start {lv : Nat} {one : Bool} {p S : Ps} (h : p.Like lv S) : Reached lv one p 0 1 S := ⟨rfl, h⟩
theorem Reached.next {lv : Nat} {one : Bool} {p S S' : Ps} {n m X x : Nat} (h : Reached lv one p n X S) (hl : legB lv one m S x S' = true) : Reached lv one p (n + m) (X * x) S' := by
  unfold legB at hl
  rw [Bool.and_eq_true, Nat.beq_eq] at hl
  obtain ⟨h1, h2⟩ := goes_like (one := one) m 1 h.2
  unfold Reached
  rw [goes_add, goes_mul, h.1]
  exact ⟨by show X * (goes lv one m (goes lv one n p 1).2 1).1 = X * x; rw [h1, hl.1], h2.trans (alike_like hl.2)⟩
theorem Reached.stay {lv : Nat} {one : Bool} {p S : Ps} {n X x : Nat} (h : Reached lv one p n X S) (hl : legB lv one 1 S x S = true) : ∀ r, Reached lv one p (n + r) (X * x ^ r) S
  | 0 => by simpa using h
  | r + 1 => by
    have := (h.stay hl r).next hl
    rwa [Nat.mul_assoc, ← Nat.pow_succ, Nat.add_assoc] at this

/-- What a stretch of 1,498 steps costs, and what each step behind it. -/
structure Cheap (lv : Nat) (one : Bool) (p : Ps) : Prop where
  cost : 4096 ^ 1498 ≤ 2 ^ 36 * (goes lv one 1498 p 1).1
  tail : ∀ r, 4093 ≤ pr lv one (goes lv one (1498 + r) p 1).2
theorem Reached.cheap {lv : Nat} {one : Bool} {p S : Ps} {n X x : Nat} (h : Reached lv one p n X S) (hl : legB lv one 1 S x S = true) (hn : n ≤ 1498) (hx : 4093 ≤ x) (hc : 4096 ^ 1498 ≤ 2 ^ 36 * (X * x ^ (1498 - n))) : Cheap lv one p := by
  have hp : pr lv one S = x := by
    unfold legB at hl
    rw [Bool.and_eq_true, Nat.beq_eq] at hl
    have := hl.1
    simpa [goes] using this
  refine ⟨?_, fun r => ?_⟩
  · have := (h.stay hl (1498 - n)).1
    rw [show n + (1498 - n) = 1498 by omega] at this
    rw [this]; exact hc
  · have := (h.stay hl (1498 - n + r)).2
    rw [show n + (1498 - n + r) = 1498 + r by omega] at this
    rw [pr_like this, hp]; exact hx

end Go.Proofs.YtpknbfkknnaajaaDoor
