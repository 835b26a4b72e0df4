/-
  The contracts of the document's Set and Cut.
-/
import Derived.Test.YteiggpdondbhoaaArR
import Derived.Test.YteiggpdondbhoaaArW
namespace Go.Proofs.Yteiggpdondbhoaa.arena
open Go.RowKit law bytes only flat came
set_option linter.unusedVariables false

theorem rE_set1 {d : List (Option Int)} {k : Nat} {x y : Int} (hk : k < d.length) (hy : d[k] = some y) : (d.flatMap rE).set (k * 2 + 1) (.int .i64 x) = (d.set k (some x)).flatMap rE := by
  have e1 : d.set k (some y) = d := by rw [← hy]; exact List.set_getElem_self hk
  have h1 := flat_set (k := 2) rE_len d k (some y) hk
  have h2 := flat_set (k := 2) rE_len d k (some x) hk
  rw [e1] at h1
  have hlen : ((d.flatMap rE).take (k * 2)).length = k * 2 := by rw [List.length_take, flat_length rE_len]; omega
  rw [h2]
  conv => lhs; rw [h1]
  rw [List.append_assoc, List.append_assoc, List.set_append_right _ _ (by rw [hlen]; omega), hlen, show k * 2 + 1 - k * 2 = 1 by omega]
  rfl
/-- a new row of slots, one of which becomes another -/
theorem own_rE2 {w : World} {base g c n k : Nat} {e : TypeId} {d : List (Option Int)} (h : w.ownsRow base e 2 (.slice (some ⟨g, 0, none⟩) n c) n (d.flatMap rE)) (hn : d.length = n) (hk : k < d.length) (o : Option Int) :
    ((w.setCell ⟨g, k * 2, none⟩ (.bool o.isSome)).setCell ⟨g, k * 2 + 1, none⟩ (.int .i64 (o.getD 0))).ownsRow base e 2 (.slice (some ⟨g, 0, none⟩) n c) n ((d.set k o).flatMap rE) ∧
      w.cell? ⟨g, k * 2, none⟩ = some (.bool d[k].isSome) ∧ w.cell? ⟨g, k * 2 + 1, none⟩ = some (.int .i64 (d[k].getD 0)) ∧ w.frozen? ⟨g, k * 2, none⟩ = false ∧ w.frozen? ⟨g, k * 2 + 1, none⟩ = false ∧
      (w.setCell ⟨g, k * 2, none⟩ (.bool o.isSome)).cell? ⟨g, k * 2 + 1, none⟩ = some (.int .i64 (d[k].getD 0)) ∧ (w.setCell ⟨g, k * 2, none⟩ (.bool o.isSome)).frozen? ⟨g, k * 2 + 1, none⟩ = false := by
  have h0 := own_cellK h rE_len (by omega) k 0 hk (by decide)
  have h1 := own_cellK h rE_len (by omega) k 1 hk (by decide)
  refine ⟨own_setK h rE_len k o hk, h0, h1, h.frozenAt _, h.frozenAt _, ?_, ?_⟩
  · rw [World.cell?_setCell_other w _ _ _ (fun e => by injection e with _ e _; omega)]
    exact h1
  · rw [World.frozen?_setCell]
    exact h.frozenAt _
theorem Rf.mk {W : World} {M : Nat → Prop} {d : List (Option Int)} {f : List Nat} {A A' : Option Addr} {n m c c' : Nat} (hn : n = d.length) (hm : m = f.length) (hc : n ≤ c) (hc' : m ≤ c') (h1 : Aw W M A (d.flatMap rE)) (h2 : Aw W M A' (fv f)) : Rf W M (.slice A n c) (.slice A' m c') d f := by
  subst hn hm
  exact ⟨A, c, A', c', rfl, hc, rfl, hc', h1, h2⟩
set_option maxHeartbeats 1600000 in
/-- behind the copy of the slots in Set -/
theorem rset_step {w w1 w2 : World} {M : Nat → Prop} {A A' : Option Addr} {c c' k : Nat} {d : List (Option Int)} {f : List Nat} {x y : Int} {v2 : Value} (hR : Rf w M (.slice A d.length c) (.slice A' f.length c') d f) (hM : ∀ i, M i → i < w.heap.size) (hk : k < d.length) (hy : d[k] = some y) (hc' : f.length ≤ c')
    (hb1 : Below w.heap.size w w1) (k1 : Blk w1 w.heap.size 28 #[.slice A d.length c, .slice A' f.length c']) (k2 : Blk w1 (w.heap.size + 1) 28 #[.slice none 0 0, .slice none 0 0]) (hsz : w.heap.size + 2 ≤ w1.heap.size)
    (hown : w2.ownsRow w1.heap.size 43 2 v2 (0 + d.length) ([] ++ d.flatMap rE)) (hg2 : w1.grownBy w2 none) :
    ∃ g2 c2, v2 = .slice (some ⟨g2, 0, none⟩) d.length c2 ∧ w2.cell? ⟨g2, k * 2 + 1, none⟩ = some (.int .i64 (d[k].getD 0)) ∧ w2.frozen? ⟨g2, k * 2 + 1, none⟩ = false ∧
      (w2.setCell ⟨g2, k * 2 + 1, none⟩ (.int .i64 x)).cell? ⟨w.heap.size, 1, none⟩ = some (.slice A' f.length c') ∧ (w2.setCell ⟨g2, k * 2 + 1, none⟩ (.int .i64 x)).cell? ⟨w.heap.size + 1, 0, none⟩ = some (.slice none 0 0) ∧
      (w2.setCell ⟨g2, k * 2 + 1, none⟩ (.int .i64 x)).cell? ⟨w.heap.size + 1, 1, none⟩ = some (.slice none 0 0) ∧ (w2.setCell ⟨g2, k * 2 + 1, none⟩ (.int .i64 x)).frozen? ⟨w.heap.size + 1, 0, none⟩ = false ∧ (w2.setCell ⟨g2, k * 2 + 1, none⟩ (.int .i64 x)).frozen? ⟨w.heap.size + 1, 1, none⟩ = false ∧
      (((w2.setCell ⟨g2, k * 2 + 1, none⟩ (.int .i64 x)).setCell ⟨w.heap.size + 1, 0, none⟩ (.slice (some ⟨g2, 0, none⟩) d.length c2)).setCell ⟨w.heap.size + 1, 1, none⟩ (.slice A' f.length c')).cell? ⟨w.heap.size + 1, 0, none⟩ = some (.slice (some ⟨g2, 0, none⟩) d.length c2) ∧
      (((w2.setCell ⟨g2, k * 2 + 1, none⟩ (.int .i64 x)).setCell ⟨w.heap.size + 1, 0, none⟩ (.slice (some ⟨g2, 0, none⟩) d.length c2)).setCell ⟨w.heap.size + 1, 1, none⟩ (.slice A' f.length c')).cell? ⟨w.heap.size + 1, 1, none⟩ = some (.slice A' f.length c') ∧
      RPost w M (setD d (k : Int) x) f (.bool (gt d (k : Int)).isSome) (.returned (.tuple #[.agg #[.slice (some ⟨g2, 0, none⟩) d.length c2, .slice A' f.length c'], .bool true])) (((w2.setCell ⟨g2, k * 2 + 1, none⟩ (.int .i64 x)).setCell ⟨w.heap.size + 1, 0, none⟩ (.slice (some ⟨g2, 0, none⟩) d.length c2)).setCell ⟨w.heap.size + 1, 1, none⟩ (.slice A' f.length c')) := by
  simp only [Nat.zero_add, List.nil_append] at hown
  obtain ⟨g2, c2, rfl, hgb, hgl, hc2⟩ := own_form hown (by omega)
  have hb2 : Below w1.heap.size w1 w2 := (Below.refl _ w1).grown hg2 (Nat.le_refl _) (fun k hk => by cases hk)
  have j1 := Blk.far (p := ⟨g2, k * 2 + 1, none⟩) (k1.below hb2 k1.lt) (by show w.heap.size ≠ g2; omega) (.int .i64 x)
  have j2 := Blk.far (p := ⟨g2, k * 2 + 1, none⟩) (k2.below hb2 k2.lt) (by show w.heap.size + 1 ≠ g2; omega) (.int .i64 x)
  obtain ⟨-, -, p1, -, p2, -, -⟩ := own_rE2 hown rfl hk none
  have hs3 := own_set hown (k * 2 + 1) (.int .i64 x)
  rw [rE_set1 hk hy] at hs3
  refine ⟨g2, c2, rfl, p1, p2, j1.cell 1, j2.cell 0, j2.cell 1, j2.frozen 0, j2.frozen 1, (Blk.two j2 (.slice (some ⟨g2, 0, none⟩) d.length c2) (.slice A' f.length c')).cell 0, (Blk.two j2 (.slice (some ⟨g2, 0, none⟩) d.length c2) (.slice A' f.length c')).cell 1, ?_⟩
  have hbl : Below w.heap.size w (((w2.setCell ⟨g2, k * 2 + 1, none⟩ (.int .i64 x)).setCell ⟨w.heap.size + 1, 0, none⟩ (.slice (some ⟨g2, 0, none⟩) d.length c2)).setCell ⟨w.heap.size + 1, 1, none⟩ (.slice A' f.length c')) :=
    Below.one (Below.one (Below.one (hb1.trans (hb2.mono hb1.size)) (by omega) _) (by omega) _) (by omega) _
  have hs5 := ownsRow_setCell_below (ownsRow_setCell_below hs3 (a := ⟨w.heap.size + 1, 0, none⟩) (by show w.heap.size + 1 < w1.heap.size; omega) (.slice (some ⟨g2, 0, none⟩) d.length c2)) (a := ⟨w.heap.size + 1, 1, none⟩) (by show w.heap.size + 1 < w1.heap.size; omega) (.slice A' f.length c')
  obtain ⟨_, _, _, _, q1, q2, q3, q4, q5, q6⟩ := hR.below hbl
  injection q3 with q3 _ q7
  subst q3
  have hg := gt_of hk hy
  unfold setD
  rw [if_pos (by rw [hg]; rfl), Int.toNat_natCast]
  exact ⟨_, _, by rw [hg]; rfl, Rf.mk (by simp) rfl hc2 hc' (Aw.made (by decide) hs5 fun i hi => by have := hM i hi; omega) q6, hbl⟩
set_option maxRecDepth 100000 in
set_option maxHeartbeats 3200000 in
theorem rset_any {w : World} {M : Nat → Prop} {L F : Value} {d : List (Option Int)} {f : List Nat} (h : Rf w M L F d f) (i x : Int) (hM : ∀ i, M i → i < w.heap.size) (hm : d.length ≤ 5864062014806) :
    Calls Try.prog 12 #[.agg #[L, F], .int .i64 i, .int .i64 x] w (RPost w M (setD d i x) f (.bool (gt d i).isSome)) := by
  have hR := h
  obtain ⟨A, c, A', c', rfl, hc, rfl, hc', ha, hb⟩ := h
  obtain ⟨hb0, b1, b2, hs0⟩ := two_new w 28 #[.slice A d.length c, .slice A' f.length c'] #[.slice none 0 0, .slice none 0 0]
  have HG := Lib.hid (rget_any (w := (w.alloc (.cells #[.slice A d.length c, .slice A' f.length c'] 28)).alloc (.cells #[.slice none 0 0, .slice none 0 0] 28)) (A' := A') (c := c) (m := f.length) (c' := c') (ha.sl.below hb0) i hb0.size)
  have HX : Hid (∀ w1, Below ((w.alloc (.cells #[.slice A d.length c, .slice A' f.length c'] 28)).alloc (.cells #[.slice none 0 0, .slice none 0 0] 28)).heap.size ((w.alloc (.cells #[.slice A d.length c, .slice A' f.length c'] 28)).alloc (.cells #[.slice none 0 0, .slice none 0 0] 28)) w1 →
      Below w.heap.size w w1 ∧ Blk w1 w.heap.size 28 #[.slice A d.length c, .slice A' f.length c'] ∧ Blk w1 (w.heap.size + 1) 28 #[.slice none 0 0, .slice none 0 0] ∧ w.heap.size + 2 ≤ w1.heap.size) := Lib.hid fun w1 hw =>
    ⟨hb0.trans (hw.mono hb0.size), b1.below hw b1.lt, b2.below hw b2.lt, by have := hw.size; omega⟩
  have HR := Lib.hid hR
  have HA := Lib.hid ha
  clear hR ha hb hb0 b1 b2 hs0
  go_enter Try.func12, Try.ntmps12
  go_wp2_with (fail)
  refine HG.out.mono ?_
  rintro e w1 ⟨rfl, hw⟩
  obtain ⟨hb1, k1, k2, hsz⟩ := HX.out w1 hw
  have c0 := k1.cell 0
  have c1 := k1.cell 1
  have e0 := k2.cell 0
  have e1 := k2.cell 1
  have ef0 := k2.frozen 0
  have ef1 := k2.frozen 1
  dsimp at c0 c1 e0 e1
  cases hg : gt d i with
  | none =>
    have hr0 := (Blk.two k2 (.slice A d.length c) (.slice A' f.length c')).cell 0
    have hr1 := (Blk.two k2 (.slice A d.length c) (.slice A' f.length c')).cell 1
    dsimp at hr0 hr1
    have hbl : Below w.heap.size w ((w1.setCell ⟨w.heap.size + 1, 0, none⟩ (.slice A d.length c)).setCell ⟨w.heap.size + 1, 1, none⟩ (.slice A' f.length c')) := Below.one (Below.one hb1 (by omega) _) (by omega) _
    have HE : Hid (RPost w M (setD d i x) f (.bool (gt d i).isSome) (.returned (.tuple #[.agg #[.slice A d.length c, .slice A' f.length c'], .bool false])) ((w1.setCell ⟨w.heap.size + 1, 0, none⟩ (.slice A d.length c)).setCell ⟨w.heap.size + 1, 1, none⟩ (.slice A' f.length c'))) := Lib.hid (by
      unfold setD
      rw [if_neg (by rw [hg]; simp)]
      exact ⟨_, _, by rw [hg]; rfl, HR.out.below hbl, hbl⟩)
    clear hw hb1 k1 k2 hbl HX HG HR HA hg
    go_wp2_with (fail)
    refine bodyPost_ret (v := .tuple #[.agg #[.slice A d.length c, .slice A' f.length c'], .bool false]) (by simp [results, Try.results12, go_sem, hr0, hr1]) rfl ?_
    exact HE.out
  | some y =>
    obtain ⟨k, rfl, hk, hy⟩ := gt_some hg
    have hsl := HA.out.sl.below hb1
    have HST := Lib.hid (fun v2 w2 => rset_step (w2 := w2) (v2 := v2) (x := x) HR.out hM hk hy hc' hb1 k1 k2 hsz)
    have hlen : (d.flatMap rE).length = d.length * 2 := flat_length rE_len d
    have z1 : (k : Int) < (d.length : Int) := by omega
    clear hw k1 k2 HX HG hy hg hb1 HR HA
    go_wp2_with (at_builtin
                 refine wpList_append_slk _ rfl (.const (.slice none 0 0)) (.tmp 21) _ rfl w1.heap.size 43 2 16 Try.underlying25 cellK (by omega) (.slice none 0 0) 0 [] rfl (World.ownsRow_nil _ _ _ _) _ A d.length c (d.flatMap rE) rfl hsl hlen (rE_one d) (by omega) (by unfold maxLen; omega) (Nat.le_refl _) ?_
                 intro v2 w2 hown2 hg2 hat2
                 obtain ⟨g2, c2, rfl, p1, p2, p3, p4, p5, p6, p7, hr0, hr1, he⟩ := HST.out v2 w2 hown2 hg2
                 have HE := Lib.hid he
                 clear hown2 hg2 hat2 he HST)
    refine bodyPost_ret (v := .tuple #[.agg #[.slice (some ⟨g2, 0, none⟩) d.length c2, .slice A' f.length c'], .bool true]) (by simp [results, Try.results12, go_sem, hr0, hr1]) rfl ?_
    exact HE.out
end Go.Proofs.Yteiggpdondbhoaa.arena
