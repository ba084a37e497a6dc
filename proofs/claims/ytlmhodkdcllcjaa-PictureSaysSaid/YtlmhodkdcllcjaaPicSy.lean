/- A file that says its width and height, in digits, with white and remarks between, as plain mathematics. -/
import Derived.Test.YtlmhodkdcllcjaaPicG
namespace Go.Proofs.Ytlmhodkdcllcjaa
open Go.RowKit
set_option maxRecDepth 100000

/-- A list's place by what is left from there on. -/
theorem drop_at {l : List Int} {i : Nat} {c : Int} {r : List Int} (h : l.drop i = c :: r) : i < l.length ∧ l.getD i 0 = c ∧ l.drop (i + 1) = r := by
  have hi : i < l.length := by
    rcases Nat.lt_or_ge i l.length with h1 | h1
    · exact h1
    · rw [List.drop_eq_nil_of_le h1] at h; cases h
  have h2 := List.drop_eq_getElem_cons hi
  rw [h] at h2
  injection h2 with h2 h3
  refine ⟨hi, ?_, h3.symm⟩
  rw [List.getD_eq_getElem?_getD, List.getElem?_eq_getElem hi, h2]
  rfl
theorem drop_more {l : List Int} {i : Nat} {a r : List Int} (h : l.drop i = a ++ r) : l.drop (i + a.length) = r := by
  rw [← List.drop_drop, h, List.drop_left]
theorem whi_blks (l : List Int) (f : Nat) : ∀ (ws r : List Int) (i : Nat), (∀ c ∈ ws, blk c) → l.drop i = ws ++ r → whi l f i = whi l f (i + ws.length)
  | [], r, i, _, _ => rfl
  | c :: ws, r, i, hb, h => by
    obtain ⟨h1, h2, h3⟩ := drop_at h
    rw [whi, if_pos h1, h2, if_pos (hb c (List.mem_cons_self ..)), whi_blks l f ws r (i + 1) (fun c hc => hb c (List.mem_cons_of_mem _ hc)) h3, List.length_cons]
    congr 1
    omega
theorem eol_run (l : List Int) : ∀ (rs r : List Int) (i : Nat), (∀ c ∈ rs, c ≠ 10) → l.drop i = rs ++ 10 :: r → eol l i = i + rs.length
  | [], r, i, _, h => by
    obtain ⟨h1, h2, _⟩ := drop_at h
    rw [eol, if_pos h1, if_pos h2]
    rfl
  | c :: rs, r, i, hb, h => by
    obtain ⟨h1, h2, h3⟩ := drop_at h
    rw [eol, if_pos h1, h2, if_neg (hb c (List.mem_cons_self ..)), eol_run l rs r (i + 1) (fun c hc => hb c (List.mem_cons_of_mem _ hc)) h3, List.length_cons]
    omega
theorem whi_rmk (l : List Int) (f i : Nat) (rs r : List Int) (hb : ∀ c ∈ rs, c ≠ 10) (h : l.drop i = 35 :: (rs ++ 10 :: r)) : whi l f i = whi l f (i + (rs.length + 2)) := by
  obtain ⟨h1, h2, _⟩ := drop_at h
  have he := eol_run l (35 :: rs) r i (fun c hc => by
    rcases List.mem_cons.1 hc with e | e
    · rw [e]; decide
    · exact hb c e) h
  rw [List.length_cons] at he
  have hl : eol l i < l.length := by
    have h3 : l.drop (i + (35 :: rs).length) = 10 :: r := drop_more (a := 35 :: rs) h
    rw [List.length_cons] at h3
    rw [he]
    exact (drop_at h3).1
  rw [whi, if_pos h1, h2, if_neg (by decide), if_pos rfl, if_pos hl, he]
  rfl
theorem whi_stop (l : List Int) (f i : Nat) {c : Int} {r : List Int} (h : l.drop i = c :: r) (h1 : ¬ blk c) (h2 : c ≠ 35) (h3 : i ≠ f) : whi l f i = i := by
  obtain ⟨a, b, _⟩ := drop_at h
  rw [whi, if_pos a, b, if_neg h1, if_neg h2, if_neg h3]
/-- Digits' number. -/
def dnum (v : Int) (ds : List Int) : Int := ds.foldl (fun v d => 10 * v + (d - 48)) v
theorem numR_run (l : List Int) : ∀ (ds r : List Int) (f i : Nat) (v : Int), (∀ d ∈ ds, dgt d) → (∀ c r', r = c :: r' → ¬ dgt c) → l.drop i = ds ++ r → ds.length < f → numR l f i v = (dnum v ds, i + ds.length, f - ds.length)
  | [], r, 0, i, v, _, _, _, hf => absurd hf (Nat.not_lt_zero _)
  | d :: ds, r, 0, i, v, _, _, _, hf => absurd hf (Nat.not_lt_zero _)
  | [], r, f + 1, i, v, _, hr, h, _ => by
    rw [numR]
    cases r with
    | nil =>
      rw [List.append_nil] at h
      rw [if_neg]
      · rfl
      · intro e
        have := List.drop_eq_nil_iff.1 h
        omega
    | cons c r =>
      obtain ⟨_, h2, _⟩ := drop_at h
      rw [h2, if_neg (fun e => hr c r rfl e.2)]
      rfl
  | d :: ds, r, f + 1, i, v, hd, hr, h, hf => by
    obtain ⟨h1, h2, h3⟩ := drop_at h
    rw [numR, h2, if_pos ⟨h1, hd d (List.mem_cons_self ..)⟩, numR_run l ds r f (i + 1) _ (fun c hc => hd c (List.mem_cons_of_mem _ hc)) hr h3 (by rw [List.length_cons] at hf; omega), List.length_cons]
    refine Prod.ext rfl (Prod.ext ?_ ?_)
    · simp only []; omega
    · simp only []; omega
/-- White as it may be. -/
def gapL (g : List Int) : Prop := ∃ ws rs, (∀ c ∈ ws, blk c) ∧ ws ≠ [] ∧ (∀ c ∈ rs, c ≠ 10) ∧ (g = ws ∨ g = ws ++ 35 :: (rs ++ [10]))
theorem whi_gap {l g r : List Int} {i : Nat} {c : Int} (hg : gapL g) (h : l.drop i = g ++ c :: r) (h1 : ¬ blk c) (h2 : c ≠ 35) : whi l i i = ((i + g.length : Nat) : Int) ∧ l.drop (i + g.length) = c :: r := by
  obtain ⟨ws, rs, b1, b2, b3, b4⟩ := hg
  have hd := drop_more h
  refine ⟨?_, hd⟩
  have hw : 0 < ws.length := List.length_pos_iff.2 b2
  rcases b4 with rfl | rfl
  · rw [whi_blks l i g (c :: r) i b1 h]
    exact whi_stop l i _ hd h1 h2 (by omega)
  · rw [List.append_assoc] at h
    rw [whi_blks l i ws _ i b1 h]
    have h3 := drop_more h
    rw [List.cons_append, List.append_assoc] at h3
    rw [whi_rmk l i _ rs (c :: r) b3 h3]
    have e : i + (ws ++ 35 :: (rs ++ [10])).length = i + ws.length + (rs.length + 2) := by simp; omega
    rw [e] at hd ⊢
    exact whi_stop l i _ hd h1 h2 (by omega)
/-- White, digits, and white again. -/
theorem tok_gap {l g ds r : List Int} {i : Nat} {c : Int} (hg : gapL g) (hd : ∀ d ∈ ds, dgt d) (h0 : ds ≠ []) (h5 : ds.length ≤ 5) (hc : ¬ dgt c) (h : l.drop i = g ++ (ds ++ c :: r)) :
    tok l i = some ((dnum 0 ds).toNat, i + g.length + ds.length) ∧ l.drop (i + g.length + ds.length) = c :: r := by
  obtain ⟨d, ds', rfl⟩ := List.exists_cons_of_ne_nil h0
  have hd0 := hd d (List.mem_cons_self ..)
  obtain ⟨h1, h2⟩ := whi_gap hg h (fun e => by unfold blk at e; unfold dgt at hd0; omega) (fun e => by unfold dgt at hd0; omega)
  have h3 := drop_more (a := d :: ds') h2
  refine ⟨?_, h3⟩
  unfold tok
  rw [h1, if_neg (by omega), Int.toNat_natCast]
  have h4 := numR_run l (d :: ds') (c :: r) 6 (i + g.length) 0 hd (fun c' r' e => by injection e with e1 e2; rw [← e1]; exact hc) h2 (by omega)
  have h6 : numP l (i + g.length) = (dnum 0 (d :: ds'), ((i + g.length + (d :: ds').length : Nat) : Int)) := by
    unfold numP
    rw [h4, if_neg (by simp only [List.length_cons] at h5 ⊢; omega)]
  rw [h6, if_neg (by simp only []; omega)]
  simp only [Int.toNat_natCast]

/-- The head of such a file. -/
def sayH (s : Int) (g da db : List Int) : List Int := [80, s] ++ (g ++ (da ++ (g ++ (db ++ (g ++ [50, 53, 53, 32])))))
theorem gap_head {g : List Int} (hg : gapL g) : ∃ c r, g = c :: r ∧ ¬ dgt c := by
  obtain ⟨ws, rs, b1, b2, _, b4⟩ := hg
  obtain ⟨w, ws', rfl⟩ := List.exists_cons_of_ne_nil b2
  have hb := b1 w (List.mem_cons_self ..)
  have hn : ¬ dgt w := fun e => by unfold blk at hb; unfold dgt at e; omega
  rcases b4 with rfl | rfl
  · exact ⟨w, ws', rfl, hn⟩
  · exact ⟨w, _, rfl, hn⟩
theorem sayH_len (s : Int) (g da db : List Int) : (sayH s g da db).length = 6 + 3 * g.length + da.length + db.length := by
  simp [sayH]; omega
theorem say_pnm {s : Int} {g da db px : List Int} {a b : Nat} (hs : s = 53 ∨ s = 54) (hg : gapL g) (ha : ∀ d ∈ da, dgt d) (ha0 : da ≠ []) (ha5 : da.length ≤ 5) (hav : dnum 0 da = a) (hb : ∀ d ∈ db, dgt d) (hb0 : db ≠ []) (hb5 : db.length ≤ 5) (hbv : dnum 0 db = b) :
    pnmP (sayH s g da db ++ px) = pnmR a b (if s = 54 then 3 else 1) (sayH s g da db).length (sayH s g da db ++ px).length := by
  obtain ⟨l, hl⟩ : ∃ l, l = sayH s g da db ++ px := ⟨_, rfl⟩
  rw [← hl]
  obtain ⟨c, gr, hgc, hcn⟩ := gap_head hg
  have e0 : l = [80, s] ++ (g ++ (da ++ (g ++ (db ++ (g ++ ([50, 53, 53] ++ 32 :: px)))))) := by rw [hl]; simp [sayH]
  have d0 : l.drop 2 = g ++ (da ++ c :: (gr ++ (db ++ (g ++ ([50, 53, 53] ++ 32 :: px))))) := by
    rw [e0, show g ++ (db ++ (g ++ ([50, 53, 53] ++ 32 :: px))) = c :: (gr ++ (db ++ (g ++ ([50, 53, 53] ++ 32 :: px)))) from by rw [hgc]; rfl]
    rfl
  obtain ⟨t1, d1⟩ := tok_gap hg ha ha0 ha5 hcn d0
  have d1' : l.drop (2 + g.length + da.length) = g ++ (db ++ c :: (gr ++ ([50, 53, 53] ++ 32 :: px))) := by
    rw [d1, show c :: (gr ++ ([50, 53, 53] ++ 32 :: px)) = g ++ ([50, 53, 53] ++ 32 :: px) from by rw [hgc]; rfl, ← List.cons_append, ← hgc]
  obtain ⟨t2, d2⟩ := tok_gap hg hb hb0 hb5 hcn d1'
  have d2' : l.drop (2 + g.length + da.length + g.length + db.length) = g ++ ([50, 53, 53] ++ 32 :: px) := by
    rw [d2, ← List.cons_append, ← hgc]
  obtain ⟨t3, d3⟩ := tok_gap hg (by decide) (by decide) (by decide) (by decide) d2'
  obtain ⟨q1, q2, _⟩ := drop_at d3
  have hlen : (sayH s g da db).length = 2 + g.length + da.length + g.length + db.length + g.length + [(50 : Int), 53, 53].length + 1 := by rw [sayH_len]; simp; omega
  have hc : chn l 3 = some ([a, b, 255], (sayH s g da db).length - 1) := by
    have c1 : chn l 1 = some ([a], 2 + g.length + da.length) := by simp [chn, t1, hav]
    have c2 : chn l 2 = some ([a, b], 2 + g.length + da.length + g.length + db.length) := by rw [chn, c1]; simp only [t2, hbv]; rfl
    rw [chn, c2]
    simp only [t3]
    rw [hlen]
    rfl
  have hh : hdP l := by
    refine ⟨by rw [e0]; simp, by rw [e0]; rfl, ?_⟩
    rw [e0]
    exact hs
  unfold pnmP
  rw [if_pos hh, hc]
  simp only []
  have hq : (sayH s g da db).length - 1 = 2 + g.length + da.length + g.length + db.length + g.length + [(50 : Int), 53, 53].length := by omega
  rw [hq, if_pos ⟨q1, by rw [q2]; decide, by simp, by simp⟩]
  unfold plnP
  rw [show l.getD 1 0 = s from by rw [e0]; rfl, hlen]
  rfl

end Go.Proofs.Ytlmhodkdcllcjaa
