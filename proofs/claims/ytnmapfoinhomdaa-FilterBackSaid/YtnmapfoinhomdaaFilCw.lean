/- The code's six calls of filters answer as the document's. -/
import Derived.Test.YtnmapfoinhomdaaFilCh
namespace Go.Proofs.Ytnmapfoinhomdaa
open Go.RowKit
set_option maxRecDepth 100000

theorem filterOK : FilterOK where
  paeth a b c w ha hb hc := (cPaethF_any a b c w ha hb hc).mono fun e w' h => ⟨h.1, h.2 ▸ Kept.refl _ _⟩
  row := fun A n c l B m d up k p w hr hb h1 h2 hn hm _ _ _ hp => cRowF_any A n c l B m d up k p w hr hb h1 h2 hn hm hp
  un := fun A n c l B m d up k p w hr hb h1 h2 hn hm _ _ _ hp => cUnF_any A n c l B m d up k p w hr hb h1 h2 hn hm hp
  best := fun A n c l B m d up p w hr hb h1 h2 hn hm _ _ hp => cBest_any A n c l B m d up p w hr hb h1 h2 hn hm hp
  apply := fun A n c b wd p w hr h8 hn hnc _ _ => by
    have hl := hr.len
    by_cases ok : okA wd p n
    · rw [apO, if_pos (by rw [hl]; exact ok)]
      obtain ⟨o1, o2, o3, o4, o5, o6⟩ := ok
      obtain ⟨v, rfl⟩ : ∃ v : Nat, wd = v := ⟨wd.toNat, by omega⟩
      rw [Int.toNat_natCast] at o6 ⊢
      exact cApplyIn_any A n c b v p w hr h8 o5 hnc (by omega) ⟨o3, o4⟩ o6
    · rw [apO, if_neg (by rw [hl]; exact ok)]
      refine (cApplyNo_any A n c wd p w hn ok).mono ?_
      rintro e w' ⟨rfl, hf⟩
      exact ⟨_, rfl, Own.nil _ _ _, fun g e => (by cases e), hf⟩
  undo := fun A n c x wd p w hr h8 hn hnc _ _ => by
    have hl := hr.len
    by_cases ok : okU wd p n
    · rw [udO, if_pos (by rw [hl]; exact ok)]
      obtain ⟨o1, o2, o3, o4, o5, o6⟩ := ok
      obtain ⟨v, rfl⟩ : ∃ v : Nat, wd = v := ⟨wd.toNat, by omega⟩
      rw [Int.toNat_natCast] at o5 o6 ⊢
      refine (cUndoIn_any A n c x v p w hr h8 hnc (by omega) ⟨o3, o4⟩ o5 o6).mono ?_
      rintro e w' (⟨k, h⟩ | ⟨k, rfl, hf⟩)
      · rw [if_pos k]
        exact h
      · rw [if_neg k]
        exact ⟨_, rfl, Own.nil _ _ _, fun g e => (by cases e), hf⟩
    · rw [udO, if_neg (by rw [hl]; exact ok)]
      refine (cUndoNo_any A n c wd p w hn ok).mono ?_
      rintro e w' ⟨rfl, hf⟩
      exact ⟨_, rfl, Own.nil _ _ _, fun g e => (by cases e), hf⟩

end Go.Proofs.Ytnmapfoinhomdaa
