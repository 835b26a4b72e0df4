/-
  The contracts of object.Cmp, object.Clone, and the document's own order.
-/
import Derived.Test.YtaickhhbdbbmjaaLive5
import Derived.Test.YtaickhhbdbbmjaaShelf
namespace Go.Proofs.Ytaickhhbdbbmjaa.obj
open Go.RowKit law bytes nums ord
set_option linter.unusedVariables false

theorem int32E : Elem Try.prog 21 (.int .i32 0) 4 := elem_mk (by kernel_rfl) rfl
theorem sclone_any (s : ByteArray) (w : World) (hl : s.size ≤ 281474976710656) : Calls Try.prog 40 #[.string s] w (Gives (.string s) w) := by
  have h := Try.stringslite_Clone s w hl
  go_enter Try.func40, Try.ntmps40
  go_wp2_with (go_at_call 48; (with_reducible refine h.mono ?_); rintro e w' ⟨rfl, hb⟩)
  go_ret
  exact ⟨rfl, hb⟩
theorem vclone_any (A : Option Addr) (l : List Int) (c B : Nat) (w : World) (hm : l.length * 4 ≤ 140737488355328) (hB : B ≤ w.heap.size) (hs : Sl w B A (iv l)) :
    Calls Try.prog 39 #[.slice A l.length c] w (Made 21 (iv l) w) := by
  have heq := fun (W : World) (a : Option Addr) (n c : Nat) => Lib.run_eql_slice_nil (P := Try.prog) W 27 21 a n c 0 0 Try.underlying27
  rcases A with _ | a
  · obtain rfl : l = [] := by
      rcases l with _ | ⟨x, r⟩
      · rfl
      · obtain ⟨ad, h, _⟩ := hs 0 _ rfl
        cases h
    go_enter Try.func39, Try.ntmps39
    go_wp2
    go_ret
    exact ⟨none, 0, rfl, World.ownsRow_nil _ _ _ _, Below.refl _ _⟩
  · go_enter Try.func39, Try.ntmps39
    go_wp2_with (first
      | (at_builtin
         refine wpList_append_sl _ rfl (.tmp 5) (.tmp 6) _ rfl w.heap.size 21 _ 4 Try.underlying27 int32E (.slice (some ⟨w.heap.size, 0, none⟩) 0 0) 0 [] rfl (World.ownsRow_lit w #[] 0 (Nat.le_refl _) (by unfold maxLen; omega) rfl) _ (some a) l.length c (iv l) rfl (hs.alloc hB _) (iv_length _) (iv_one _) (by omega) (by unfold maxLen; omega) (by simp) ?_
         intro v1 w1 hown1 hg1 hat1
         have hb1 : Below w.heap.size w w1 := ((Below.refl _ w).alloc (Nat.le_refl _) _).grown hg1 (by simp) (by simp [Value.ownBlock])
         simp only [Nat.zero_add, List.nil_append] at hown1
         obtain ⟨A1, c1, rfl, hc1⟩ := own_slice hown1))
    go_ret
    exact Made.mk hown1 rfl hb1

end Go.Proofs.Ytaickhhbdbbmjaa.obj
