/-
  Several texts in one.
-/
import Derived.Test.YtgbjpobgjmkjgaaGreatGHit
import Derived.Test.YtgbjpobgjmkjgaaGreatShelg
import Derived.Shelf.SlSortCmp.NoneTotal
/-
  The contract of slices.Clone at hits: a row of the call's own that reads as the old one.
-/
namespace Go.Proofs.YtgbjpobgjmkjgaaGreat.hit
open Go.RowKit law bytes only flat Go.Sort Go.Shelf
set_option linter.unusedVariables false

theorem clone_any (A : Option Addr) (l : List Hit) (c B : Nat) (w : World) (hm : l.length * 16 ≤ 140737488355328) (hB : B ≤ w.heap.size) (hs : Sl w B A (hv l)) :
    Calls Tryz.prog 148 #[.slice A l.length c] w (Own l w) := by
  have heq := fun (W : World) (a : Option Addr) (n c : Nat) => Lib.run_eql_slice_nil (P := Tryz.prog) W 72 80 a n c 0 0 Tryz.underlying72
  rcases A with _ | a
  · obtain rfl : l = [] := by
      rcases l with _ | ⟨x, r⟩
      · rfl
      · obtain ⟨ad, h, _⟩ := hs 0 _ rfl
        cases h
    go_enter Tryz.func148, Tryz.ntmps148
    go_wp2
    go_ret
    exact ⟨none, 0, rfl, World.ownsRow_nil _ _ _ _, Below.refl _ _⟩
  · go_enter Tryz.func148, Tryz.ntmps148
    go_wp2_with (first
      | (at_builtin
         refine wpList_append_slk _ rfl (.tmp 5) (.tmp 6) _ rfl w.heap.size 80 2 16 Tryz.underlying72 hitE (by omega) (.slice (some ⟨w.heap.size, 0, none⟩) 0 0) 0 [] rfl (World.ownsRow_lit w #[] 0 (Nat.le_refl _) (by unfold maxLen; omega) rfl) _ (some a) l.length c (hv l) rfl (hs.alloc hB _) (hv_length _) (hv_one _) (by omega) (by unfold maxLen; omega) (by simp) ?_
         intro v1 w1 hown1 hg1 hat1
         have hb1 : Below w.heap.size w w1 := ((Below.refl _ w).alloc (Nat.le_refl _) _).grown hg1 (by simp) (by simp [Value.ownBlock])
         simp only [Nat.zero_add, List.nil_append] at hown1
         obtain ⟨A1, c1, rfl, hc1⟩ := own_slice hown1))
    go_ret
    exact Own.mk hown1 rfl hb1
end Go.Proofs.YtgbjpobgjmkjgaaGreat.hit
/-
  The contracts of hits.Sort, hits.Sorted, the law's lives.
-/
namespace Go.Proofs.YtgbjpobgjmkjgaaGreat.hit
open Go.RowKit law bytes only flat Go.Sort Go.Shelf
set_option linter.unusedVariables false

theorem ltOf_cf : ltOf cf = lt := by
  funext x y
  exact cf_lt x y
set_option maxHeartbeats 1000000 in
theorem sortFunc_any (A : Option Addr) (l : List Hit) (c base : Nat) (w : World) (hm : l.length * 16 ≤ 140737488355328) (ho : w.ownsRow base 80 2 (.slice A l.length c) l.length (hv l)) :
    Calls Tryz.prog 149 #[.slice A l.length c, .func (.func 108) #[] #[]] w fun e w' => e = .returned (.tuple #[]) ∧ Sl w' w'.heap.size A (hv (sortH l)) ∧ ∀ B w0, Below B w0 w → B ≤ base → B ≤ w.heap.size → Below B w0 w' := by
  rcases Nat.eq_zero_or_pos l.length with h0 | h0
  · obtain rfl := List.eq_nil_of_length_eq_zero h0
    have h := AnyF.slices_SortFunc_none Tryz.sortHit A c (.func (.func 108) #[] #[]) w
    exact h.mono fun e w' ⟨he, hw⟩ => ⟨he, Sl.nil, fun B w0 hb _ _ => hw ▸ hb⟩
  · obtain ⟨g, c', hv', hg1, hg2, hc'⟩ := own_form ho h0
    injection hv' with e1 e2 e3
    subst e1 e3
    have hF : FRow hc 2 80 w base g c l.toArray := by
      unfold FRow
      exact ho
    have hcon := AnyQ.slices_SortFunc Tryz.sortHit 2 Tryz.isAgg80 Tryz.sizeOf80 hc hc_len hc_one cf (by rw [ltOf_cf]; exact swo) 108 #[] g 0 c l.toArray w cmp_enters (cmp_lays g 0 _ w) (holdsK_of_own hc_len hF) hg2 (by simp; omega)
    refine hcon.mono ?_
    rintro e w' ⟨he, d', n, os, hp, hs, rfl⟩
    rw [ltOf_cf] at hs
    have hd := sorted_is hp hs
    have hH := holdsK_sortWorldK_c hc 2 w g 0 l.toArray d' n os (holdsK_of_own hc_len hF) hg2 hp.1
    refine ⟨he, ?_, fun B w0 hb hB1 hB2 => below_sortK hb (by omega) hB2⟩
    have := Sl.of_holdsK hc_len hH (Nat.lt_of_lt_of_le hg2 (size_sortWorldK_c hc 2 w g 0 n d' os))
    rw [hd] at this
    exact this
end Go.Proofs.YtgbjpobgjmkjgaaGreat.hit
