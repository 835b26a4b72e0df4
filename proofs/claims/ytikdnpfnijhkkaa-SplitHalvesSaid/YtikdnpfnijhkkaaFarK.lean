/-
  The contract of slices.Clone at fars.
-/
import Derived.Test.YtikdnpfnijhkkaaFarC
namespace Go.Proofs.Ytikdnpfnijhkkaa.far
open Go.RowKit law bytes only flat hit spl Go.Sort Go.Shelf
set_option linter.unusedVariables false

theorem clone_any (A : Option Addr) (l : List Hit) (c B : Nat) (w : World) (hm : l.length * 16 ≤ 140737488355328) (hB : B ≤ w.heap.size) (hs : Sl w B A (fv l)) :
    Calls Try.prog 17 #[.slice A l.length c] w (Own 26 l w) := by
  have heq := fun (W : World) (a : Option Addr) (n c : Nat) => Lib.run_eql_slice_nil (P := Try.prog) W 29 26 a n c 0 0 Try.underlying29
  rcases A with _ | a
  · obtain rfl : l = [] := by
      rcases l with _ | ⟨x, r⟩
      · rfl
      · obtain ⟨ad, h, _⟩ := hs 0 _ rfl
        cases h
    go_enter Try.func17, Try.ntmps17
    go_wp2
    go_ret
    exact ⟨none, 0, rfl, World.ownsRow_nil _ _ _ _, Below.refl _ _⟩
  · go_enter Try.func17, Try.ntmps17
    go_wp2_with (first
      | (at_builtin
         refine wpList_append_slk _ rfl (.tmp 5) (.tmp 6) _ rfl w.heap.size 26 2 16 Try.underlying29 farE (by omega) (.slice (some ⟨w.heap.size, 0, none⟩) 0 0) 0 [] rfl (World.ownsRow_lit w #[] 0 (Nat.le_refl _) (by unfold maxLen; omega) rfl) _ (some a) l.length c (fv l) rfl (hs.alloc hB _) (fv_length _) (fv_one _) (by omega) (by unfold maxLen; omega) (by simp) ?_
         intro v1 w1 hown1 hg1 hat1
         have hb1 : Below w.heap.size w w1 := ((Below.refl _ w).alloc (Nat.le_refl _) _).grown hg1 (by simp) (by simp [Value.ownBlock])
         simp only [Nat.zero_add, List.nil_append] at hown1
         obtain ⟨A1, c1, rfl, hc1⟩ := own_slice hown1))
    go_ret
    exact Own.mk hown1 rfl hb1
end Go.Proofs.Ytikdnpfnijhkkaa.far
