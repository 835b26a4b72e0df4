/-
  The contracts of the document's own pad and Dist.
-/
import Derived.Test.YtdfakjpchgomdaaDistL
import Derived.Lib.Walk
import Derived.Deep.LoopGhost
namespace Go.Proofs.Ytdfakjpchgomdaa.lone
open Go.RowKit law bytes dist
set_option linter.unusedVariables false

/-- with noughts behind -/
def padL (l : List Int) (n : Nat) : List Int := l ++ List.replicate (n - l.length) 0
theorem padL_length (l : List Int) (n : Nat) : (padL l n).length = max l.length n := by simp [padL]; omega
theorem padL_nm (l : List Int) (n j : Nat) : nm (padL l n) j = nm l j := by
  unfold nm padL
  rw [List.getElem?_append]
  split
  · rfl
  · rw [List.getElem?_replicate]
    split <;> simp_all
theorem padL_bd {l : List Int} (h : Bd l) (n : Nat) : Bd (padL l n) := fun x hx => by
  rcases List.mem_append.1 hx with hx | hx
  · exact h x hx
  · obtain ⟨_, rfl⟩ := List.mem_replicate.1 hx
    omega
theorem pad_step (l : List Int) (k : Nat) : iv (l ++ List.replicate k 0) ++ [.int .i32 0] = iv (l ++ List.replicate (k + 1) 0) := by
  rw [List.replicate_succ', ← List.append_assoc, iv_append (l ++ List.replicate k 0)]
  rfl

set_option maxHeartbeats 800000 in
theorem pad_any (A : Option Addr) (c n : Nat) (l : List Int) (hl : l.length ≤ 1048576) (hn : n ≤ 1048576) (w : World) (hs : Sl w w.heap.size A (iv l)) :
    Calls Try.prog 35 #[.slice A l.length c, .int .i64 n] w (Made 21 (iv (padL l n)) w) := by
  go_enter Try.func35, Try.ntmps35
  go_wp2_with (at_builtin
               refine wpList_append_sl _ rfl (.const (.slice none 0 0)) (.tmp 6) _ rfl w.heap.size 21 _ 4 Try.underlying22 int32E (.slice none 0 0) 0 [] rfl (World.ownsRow_nil _ _ _ _) w.heap.size A l.length c (iv l) rfl hs (iv_length l) (iv_one l) (by omega) (by unfold maxLen; omega) (Nat.le_refl _) ?_
               intro v1 w1 hown1 hg1 hat1
               simp only [Nat.zero_add, List.nil_append] at hown1
               obtain ⟨A1, k1, rfl, hk1⟩ := own_slice hown1)
  have hb1 : Below w.heap.size w w1 := (Below.refl _ w).grown hg1 (Nat.le_refl _) (by simp [Value.ownBlock])
  clear hg1 hat1
  go_loopg [5] (n - l.length) (fun gk v wr => ∃ (k c : Nat) (A : Option Addr), k ≤ n - l.length ∧ gk = n - l.length - k ∧ v = .slice A (l.length + k) c ∧ wr.ownsRow w.heap.size 21 1 (.slice A (l.length + k) c) (l.length + k) (iv (l ++ List.replicate k 0)) ∧ Below w.heap.size w wr)
  case atStart => exact ⟨0, k1, A1, Nat.zero_le _, rfl, rfl, by simpa using hown1, hb1⟩
  case round =>
    clear hown1 hb1
    obtain ⟨k, c', A', hk, rfl, rfl, hown, hb⟩ := hrel
    have hb0 : w.heap.size ≤ wr.heap.size := hb.size
    by_cases hlt : k < n - l.length
    · go_wp2_with (at_builtin
                   refine wpList_append_sl _ rfl (.tmp 12) (.tmp 13) _ rfl w.heap.size 21 _ 4 Try.underlying22 int32E (.slice A' (l.length + k) c') (l.length + k) (iv (l ++ List.replicate k 0)) rfl (hown.alloc _) _ _ 1 1 [.int .i32 0] rfl (Sl.one wr _ _) rfl (by simp [Value.oneCell']) (by omega) (by unfold maxLen; omega) (by simp; omega) ?_
                   intro v4 w4 hown4 hg4 hat4
                   obtain ⟨A4, c4, rfl, hc4⟩ := own_slice hown4)
      go_roundg (n - l.length - (k + 1))
      case rel => exact ⟨k + 1, c4, A4, by omega, rfl, rfl, by rw [← pad_step]; exact hown4, below_append hb hb0 _ hown (Nat.le_refl _) hg4⟩
      case measure => omega
    · obtain rfl : k = n - l.length := by omega
      go_wp2
      go_ret
      exact Made.mk hown rfl hb
end Go.Proofs.Ytdfakjpchgomdaa.lone
