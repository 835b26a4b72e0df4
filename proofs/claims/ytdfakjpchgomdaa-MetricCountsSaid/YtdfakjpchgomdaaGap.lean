/-
  The contracts of lone.number, lone.gap, lone.gaps; int32's shape.
-/
import Derived.Test.YtdfakjpchgomdaaIv
import Derived.Test.YtdfakjpchgomdaaQuiet
import Derived.Test.YtdfakjpchgomdaaChecked
import Derived.Lib.Hide
import Derived.Deep.QuietTactic
import Derived.BigQuiet
import Derived.WalkSpells
namespace Go.Proofs.Ytdfakjpchgomdaa.lone
open Go.RowKit law bytes dist
set_option linter.unusedVariables false

theorem w64 (n : Int) (h : -9223372036854775808 ≤ n ∧ n ≤ 9223372036854775807) : wrap64 n = n := by unfold wrap64; omega
theorem int32E : Elem Try.prog 21 (.int .i32 0) 4 := elem_mk (by kernel_rfl) (by decide)
theorem gap_any (x y : Int) (h1 : -2305843009213693952 ≤ x ∧ x ≤ 2305843009213693952) (h2 : -2305843009213693952 ≤ y ∧ y ≤ 2305843009213693952) (w : World) :
    Calls Try.prog 42 #[.int .i64 x, .int .i64 y] w fun e w' => e = .returned (.int .i64 (gp x y)) ∧ w' = w := by
  obtain ⟨a1, a2⟩ := h1
  obtain ⟨b1, b2⟩ := h2
  have e1 : wrap64 (x - y) = x - y := w64 _ (by omega)
  have e2 : wrap64 (y - x) = y - x := w64 _ (by omega)
  go_enter Try.func42, Try.ntmps42
  go_wp2
  all_goals
    go_ret
    exact ⟨ret_int (by unfold gp; omega), rfl⟩
theorem number_any (A : Option Addr) (c : Nat) (l : List Int) (j B : Nat) (w : World) (h : Sl w B A (iv l)) (hb : Bd l) (hj : j ≤ 9223372036854775807) (hl : l.length ≤ 9223372036854775807) :
    Calls Try.prog 46 #[.slice A l.length c, .int .i64 j] w fun e w' => e = .returned (.int .i64 (nm l j)) ∧ w' = w := by
  by_cases hlt : j < l.length
  · obtain ⟨ad, rfl, _, hc⟩ := Sl.nm h hlt
    obtain ⟨b1, b2⟩ := nm_bd hb j
    go_enter Try.func46, Try.ntmps46
    go_wp2
    go_ret
    exact ⟨rfl, rfl⟩
  · rw [nm_ge (by omega)]
    go_enter Try.func46, Try.ntmps46
    go_wp2
    go_ret
    exact ⟨rfl, rfl⟩
theorem gaps_any (A B : Option Addr) (n m c d : Nat) (w : World) :
    Calls Try.prog 36 #[.slice A n c, .slice B m d] w fun e w' => e = .returned (.func (.func 45) #[] #[.pointer (some ⟨w.heap.size, 0, none⟩), .pointer (some ⟨w.heap.size + 1, 0, none⟩)]) ∧
      w' = (w.alloc (.cells #[.slice A n c] 22)).alloc (.cells #[.slice B m d] 22) := by
  go_enter Try.func36, Try.ntmps36
  go_wp2
  go_ret
  exact ⟨rfl, rfl⟩
end Go.Proofs.Ytdfakjpchgomdaa.lone
