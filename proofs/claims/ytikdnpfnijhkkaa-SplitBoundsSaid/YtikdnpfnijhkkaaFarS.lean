/-
  The contracts of slices.Clone and slices.SortFunc at fars.
-/
import Derived.Test.YtikdnpfnijhkkaaFarC
import Derived.Test.YtikdnpfnijhkkaaShelg
import Derived.Shelf.SlSortCmp.NoneTotal
namespace Go.Proofs.Ytikdnpfnijhkkaa.far
open Go.RowKit law bytes only flat hit spl Go.Sort Go.Shelf
set_option linter.unusedVariables false

theorem ltOf_cf : ltOf cf = lt := by
  funext x y
  exact cf_lt x y
set_option maxHeartbeats 1000000 in
theorem sortFunc_any (A : Option Addr) (l : List Hit) (c base : Nat) (w : World) (hm : l.length * 16 ≤ 140737488355328) (ho : w.ownsRow base 26 2 (.slice A l.length c) l.length (fv l)) :
    Calls Try.prog 19 #[.slice A l.length c, .func (.func 18) #[] #[]] w fun e w' => e = .returned (.tuple #[]) ∧ Sl w' w'.heap.size A (fv (sortH l)) ∧ ∀ B w0, Below B w0 w → B ≤ base → B ≤ w.heap.size → Below B w0 w' := by
  rcases Nat.eq_zero_or_pos l.length with h0 | h0
  · obtain rfl := List.eq_nil_of_length_eq_zero h0
    have h := AnyF.slices_SortFunc_none Try.sortFar A c (.func (.func 18) #[] #[]) w
    exact h.mono fun e w' ⟨he, hw⟩ => ⟨he, Sl.nil, fun B w0 hb _ _ => hw ▸ hb⟩
  · obtain ⟨g, c', hv', hg1, hg2, hc'⟩ := own_form ho h0
    injection hv' with e1 e2 e3
    subst e1 e3
    have hF : FRow fc 2 26 w base g c l.toArray := by
      unfold FRow
      exact ho
    have hcon := AnyQ.slices_SortFunc Try.sortFar 2 Try.isAgg26 Try.sizeOf26 fc fc_len fc_one cf (by rw [ltOf_cf]; exact swo) 18 #[] g 0 c l.toArray w cmp_enters (cmp_lays g 0 _ w) (holdsK_of_own fc_len hF) hg2 (by simp; omega)
    refine hcon.mono ?_
    rintro e w' ⟨he, d', n, os, hp, hs, rfl⟩
    rw [ltOf_cf] at hs
    have hd := sorted_is hp hs
    have hH := holdsK_sortWorldK_c fc 2 w g 0 l.toArray d' n os (holdsK_of_own fc_len hF) hg2 hp.1
    refine ⟨he, ?_, fun B w0 hb hB1 hB2 => below_sortK hb (by omega) hB2⟩
    have := Sl.of_holdsK fc_len hH (Nat.lt_of_lt_of_le hg2 (size_sortWorldK_c fc 2 w g 0 n d' os))
    rw [hd] at this
    exact this
end Go.Proofs.Ytikdnpfnijhkkaa.far
