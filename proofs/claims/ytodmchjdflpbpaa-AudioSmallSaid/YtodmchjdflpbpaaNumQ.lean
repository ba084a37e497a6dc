/- The document's numbers in bytes: Little; its reader: New, Left, Raw, Little. -/
import Derived.Test.YtodmchjdflpbpaaZeros
import Derived.Test.YtodmchjdflpbpaaNumMath
import Derived.Lib.MinMax
import Derived.Deep.DrawnRows
import Derived.StillTailTactics
import Derived.Test.YtodmchjdflpbpaaCut
namespace Go.Proofs.Ytodmchjdflpbpaa
open Go.RowKit
set_option maxRecDepth 100000

attribute [local go_sem ↓] Go.wp_at_zero Go.wp_at_succ

theorem Try.infoByteQ : (Try.prog.info? 5).map (fun i => (i.zero, i.size, i.bytes)) = some (some (.int .u8 0), 1, 1) := by kernel_rfl

theorem leBytes_succ (v k : Nat) : leBytes v (k + 1) = leBytes v k ++ [((v / 256 ^ k % 256 : Nat) : Int)] := by simp [leBytes, List.range_succ]

set_option maxHeartbeats 800000 in
/-- The lowest n bytes of a number. -/
theorem qLit_any (v n : Nat) (w : World) (hn : n ≤ 8) :
    Calls Try.prog 7 #[.int .u64 v, .int .i64 n] w fun e w' => ∃ u, e = .returned u ∧ NewRow w w' 5 .u8 u (leBytes v n) := by
  obtain ⟨i0, hi, hz0, hz1, hz2⟩ := info_parts Try.infoByteQ
  have n0 : (0 : Int) ≤ (n : Int) := by omega
  have n1 : (n : Int) ≤ 8 := by omega
  have hmin : min (n : Int) 8 = (n : Int) := by omega
  have hmax : max (0 : Int) (n : Int) = (n : Int) := by omega
  go_enter Try.func7, Try.ntmps7
  go_wp2_with fail
  go_loopw [6, 5] (fun i u wr => ∃ k : Nat, k ≤ n ∧ i = .int .i64 k ∧ NewRow w wr 5 .u8 u (leBytes v k)) (fun i _ _ => (n - intOf i).toNat)
  case atStart => exact ⟨0, by omega, rfl, Own.nil _ _ _, fun k e => (by cases e), Kept.refl _ _⟩
  case round =>
    obtain ⟨k, hk, rfl, hown, hnew, hf⟩ := hrel
    have HN := Lib.hid (And.intro hown (And.intro hnew hf))
    clear hown hnew hf
    by_cases hlt : k < n
    · have k0 : (k : Int) < (n : Int) := by omega
      have hs := leBytes_succ v k
      have e2 : (2 : Nat) ^ (8 * k) = 256 ^ k := by rw [Nat.pow_mul]
      have hb : ((v : Int) / 2 ^ (8 * k)) % 256 = ((v / 256 ^ k % 256 : Nat) : Int) := by rw [← e2]; simp
      have Hs := Lib.hid (And.intro hs hb)
      have hlen := leBytes_length v k
      have hlen' : (leBytes v k).length = k := hlen
      generalize hx : leBytes v k = xs at *
      have hx8 : xs.length ≤ 8 := by omega
      have HL := Lib.hid (And.intro hlen hx)
      clear hs hb hlen hlen' e2 hx
      go_wp2_with (at_builtin; refine wpList_app _ rfl _ _ 27 rfl 5 i0 .u8 1 Try.underlying27 hi hz0 hz1 hz2 _ xs rfl (HN.out.1.alloc _) _ 1 1 [_] rfl (Row.one _ _ _ _) (by unfold maxLen; omega) (by omega) ?_)
      intro v9 w9 ho9 hg9 hat9
      have hk9 : Fresh w w9 := (HN.out.2.2.alloc _).grown hg9 (fun j e hj => absurd (HN.out.2.1 j e) (by omega))
      have H9 : Hid (NewRow w w9 5 .u8 v9 (leBytes v (k + 1))) := by
        refine Lib.hid ⟨?_, fun j e => ?_, hk9⟩
        · rw [Hs.out.1, ← Hs.out.2]
          exact ho9
        · rcases hat9 with e2 | e2
          · exact HN.out.2.1 j (e2 ▸ e)
          · rw [e2] at e
            injection e with e
            have := HN.out.2.2.size
            omega
      clear ho9 hg9 hat9 hk9 HN Hs
      go_wp2_with fail
      go_roundw
      case rel => exact ⟨k + 1, by omega, by go_num, H9.out⟩
      case measure => simp [intOf]; omega
    · obtain rfl : k = n := by omega
      go_wp2_with fail
      go_ret
      exact ⟨_, rfl, HN.out⟩

/-- The next n bytes, the place behind them, the fault. -/
def qtk (bs : List Int) (p : Nat) (err : Int) (n : Nat) : List Int × Nat × Int :=
  if err ≠ 0 then ([], p, err) else if n ≤ bs.length - p then ((bs.drop p).take n, p + n, 0) else ([], p, 3)
theorem qtk_len (bs : List Int) (p : Nat) (err : Int) (n : Nat) : (qtk bs p err n).1.length ≤ n ∧ (qtk bs p err n).1.length ≤ bs.length := by
  unfold qtk
  split
  · simp
  split
  · simp; omega
  · simp
theorem qtk_byte {bs : List Int} (p : Nat) (err : Int) (n : Nat) (h : ∀ c ∈ bs, 0 ≤ c ∧ c < 256) : ∀ c ∈ (qtk bs p err n).1, 0 ≤ c ∧ c < 256 := by
  unfold qtk
  split
  · simp
  split
  · intro c hc
    exact h c (List.mem_of_mem_drop (List.mem_of_mem_take hc))
  · simp




theorem leNum_cons (x : Int) (r : List Int) : leNum (x :: r) = x.toNat + 256 * leNum r := rfl
theorem leNum_drop {xs : List Int} {i : Nat} (hi : i < xs.length) : leNum (xs.drop i) = (xs.getD i 0).toNat + 256 * leNum (xs.drop (i + 1)) := by
  rw [List.drop_eq_getElem_cons hi, leNum_cons]; simp [List.getD, hi]

theorem q_or_be (acc c : Nat) (ha : acc < 72057594037927936) (hc : c < 256) : bits .or .u64 (IntKind.u64.wrap ((acc : Int) * 256)) (IntKind.u64.wrap (c : Int)) = ((c + 256 * acc : Nat) : Int) := by
  have e1 : IntKind.u64.wrap ((acc : Int) * 256) = ((256 * acc : Nat) : Int) := by rw [IntKind.wrap_u64]; omega
  have e2 : IntKind.u64.wrap (c : Int) = (c : Int) := by rw [IntKind.wrap_u64]; omega
  rw [e1, e2, u64_or_nat _ _ (by omega) (by omega), nat_join 8 (256 * acc) c (by simp) (by omega)]
  omega


end Go.Proofs.Ytodmchjdflpbpaa
