/- The document's Flush. -/
import Derived.Test.YtfdeacoaimnfeaaCodQ
namespace Go.Proofs.Ytfdeacoaimnfeaa
open Go.RowKit

def fourI (l : Nat) : List Int := [(l : Int) / 16777216 % 256, (l : Int) / 65536 % 256, (l : Int) / 256 % 256, (l : Int) % 256]
theorem fourI_eq (l : Nat) : fourI l = four l := by simp [fourI, four]

set_option maxHeartbeats 1600000 in
/-- Flush: P4.1. -/
theorem qFlush_any (g l h : Nat) (v : Value) (bs : List Int) (w : World) (e : EncR w g l h v bs) (o : Open l h) (hlen : bs.length ≤ 1000000000) :
    Calls Try.prog 15 #[.pointer (some ⟨g, 0, none⟩)] w fun e w' => FPost w w' g 59 v 4294967295 e (bs ++ four l) := by
  obtain ⟨i0, hi, hz0, hz1, hz2⟩ := info_parts Try.infoByteC
  have c0 : w.cell? ⟨g, 0, none⟩ = some (.int .u32 l) := by simpa using e.blk.cell 0
  have c2 : w.cell? ⟨g, 2, none⟩ = some v := by simpa using e.blk.cell 2
  have hl : l < 4294967296 := by have := o.lt; have := o.hi; omega
  have hne := e.ne_ (by decide)
  have w1 : IntKind.u8.wrap ((l : Int) / 16777216) = (l : Int) / 16777216 % 256 := by rw [IntKind.wrap_u8]
  have w2 : IntKind.u8.wrap ((l : Int) / 65536) = (l : Int) / 65536 % 256 := by rw [IntKind.wrap_u8]
  have w3 : IntKind.u8.wrap ((l : Int) / 256) = (l : Int) / 256 % 256 := by rw [IntKind.wrap_u8]
  have w4 : IntKind.u8.wrap (l : Int) = (l : Int) % 256 := by rw [IntKind.wrap_u8]
  go_enter Try.func15, Try.ntmps15
  go_wp2_with (at_builtin; refine wpList_append_lies _ rfl (.tmp 13) (.tmp 25) 31 rfl 0 5 i0 (.int .u8 0) 1 1 Try.underlying31 hi hz0 hz1 hz2 rfl (by decide) _ bs.length (ivs .u8 bs) rfl (World.ownsRow.alloc e.own _) ⟨w.heap.size, 0, none⟩ 4 4 (ivs .u8 (fourI l)) rfl rfl (World.news_of_block (heap_alloc_new w _)) (ivs_one _ _) (by decide) (by unfold maxLen; omega) (by omega) (by omega) (w.heap.size + 1) (by simp) ?_)
  intro q cap w5 hown hgrow hat hlt
  clear w1 w2 w3 w4
  have hb5 := (e.blk.alloc (.cells (ivs .u8 (fourI l)).toArray 5)).grown hgrow (fun e => hne e.symm)
  have ho5 : Own w5 5 .u8 (.slice (some ⟨q, 0, none⟩) (bs.length + 4) cap) (bs ++ four l) := by
    rw [← fourI_eq l]
    exact Own.of_append hown rfl
  have hv5 : ∀ k, (Value.slice (some ⟨q, 0, none⟩) (bs.length + 4) cap).ownBlock = some k → v.ownBlock = some k ∨ w.heap.size ≤ k := by
    intro k hk'
    have : q = k := by simpa [Value.ownBlock] using hk'
    subst this
    rcases hat with e | e
    · exact .inl e
    · exact .inr (by omega)
  have hk5 : Kept (EFoot g v) w w5 := Kept.grown (Kept.alloc (Kept.refl _ _) _) hgrow fun k e _ => .inr e
  have H5 := Lib.hid (And.intro hb5 (And.intro ho5 (And.intro hv5 hk5)))
  clear hb5 ho5 hv5 hk5 hown hgrow hat hi hz0 hz1 hz2 c0 c2
  go_wp2_with fail
  refine (qfull_any _).mono ?_
  rintro ee w6 ⟨rfl, hf⟩
  have hb6 := H5.out.1.kept hf id
  have d0 := hb6.cell 0
  have d1 := hb6.cell 1
  have d2 := hb6.cell 2
  have f0 := hb6.frozen 0
  have f1 := hb6.frozen 1
  have f2 := hb6.frozen 2
  simp only [List.getElem?_toArray, List.getElem?_cons_succ, List.getElem?_cons_zero] at d0 d1 d2
  have ho6 := H5.out.2.1.kept hf (fun _ _ => id)
  have hk6 := H5.out.2.2.2.fresh hf
  have hun := ho6.ne_blk hb6 (by decide)
  have H6 := Lib.hid (And.intro hb6 (And.intro ho6 hk6))
  clear hb6 ho6 hk6 hf
  go_wp2_with fail
  go_ret
  refine ⟨_, rfl, ?_, H5.out.2.2.1, ⟨?_, Own.nil _ _ _, by simp⟩, ?_⟩
  · exact ((H6.out.2.1.setFar hun _).setFar hun _).setFar hun _
  · simpa using ((H6.out.1.set_ 0 (.int .u32 0)).set_ 1 (.int .u32 4294967295)).set_ 2 (.slice none 0 0)
  · exact ((H6.out.2.2.setCell (fun _ => .inl rfl) _).setCell (fun _ => .inl rfl) _).setCell (fun _ => .inl rfl) _

end Go.Proofs.Ytfdeacoaimnfeaa
