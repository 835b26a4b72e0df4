/-
  The contracts of the document's Cut and Put.
-/
import Derived.Test.YteiggpdondbhoaaArS
namespace Go.Proofs.Yteiggpdondbhoaa.arena
open Go.RowKit law bytes only flat came
set_option linter.unusedVariables false

/-- where one of the document's functions stands: its arena, what it gives back -/
structure Vs (w W : World) (L F : Value) : Prop where
  below : Below w.heap.size w W
  k1 : Blk W w.heap.size 28 #[L, F]
  k2 : Blk W (w.heap.size + 1) 28 #[.slice none 0 0, .slice none 0 0]
  size : w.heap.size + 2 ≤ W.heap.size
section
variable {w W W2 : World} {L F : Value}
theorem Vs.start (w : World) (L F : Value) : Vs w ((w.alloc (.cells #[L, F] 28)).alloc (.cells #[.slice none 0 0, .slice none 0 0] 28)) L F := by
  obtain ⟨hb0, b1, b2, hs0⟩ := two_new w 28 #[L, F] #[.slice none 0 0, .slice none 0 0]
  exact ⟨hb0, b1, b2, by omega⟩
theorem Vs.on (h : Vs w W L F) (o : Below W.heap.size W W2) : Vs w W2 L F := ⟨h.below.trans (o.mono h.below.size), h.k1.below o h.k1.lt, h.k2.below o h.k2.lt, Nat.le_trans h.size o.size⟩
theorem Vs.alloc (h : Vs w W L F) (o : Obj) : Vs w (W.alloc o) L F := h.on ((Below.refl _ W).alloc (Nat.le_refl _) o)
theorem Vs.grown {row : Option Nat} (h : Vs w W L F) (hg : W.grownBy W2 row) (hr : ∀ g, row = some g → w.heap.size + 2 ≤ g) : Vs w W2 L F :=
  ⟨h.below.grown hg h.below.size (fun g e => by have := hr g e; omega), h.k1.grown hg (fun e => by have := hr _ e.symm; omega), h.k2.grown hg (fun e => by have := hr _ e.symm; omega), Nat.le_trans h.size hg.size⟩
theorem Vs.off (h : Vs w W L F) {g i : Nat} (hg : w.heap.size + 2 ≤ g) (u : Value) : Vs w (W.setCell ⟨g, i, none⟩ u) L F :=
  ⟨Below.one h.below (by omega) u, h.k1.far (p := ⟨g, i, none⟩) (by show w.heap.size ≠ g; omega) u, h.k2.far (p := ⟨g, i, none⟩) (by show w.heap.size + 1 ≠ g; omega) u, by simpa [World.setCell] using h.size⟩
/-- the end: what it gives back is laid, and read -/
theorem Vs.fin (h : Vs w W L F) (L2 F2 : Value) : W.cell? ⟨w.heap.size + 1, 0, none⟩ = some (.slice none 0 0) ∧ W.cell? ⟨w.heap.size + 1, 1, none⟩ = some (.slice none 0 0) ∧ W.frozen? ⟨w.heap.size + 1, 0, none⟩ = false ∧ W.frozen? ⟨w.heap.size + 1, 1, none⟩ = false ∧
    ((W.setCell ⟨w.heap.size + 1, 0, none⟩ L2).setCell ⟨w.heap.size + 1, 1, none⟩ F2).cell? ⟨w.heap.size + 1, 0, none⟩ = some L2 ∧ ((W.setCell ⟨w.heap.size + 1, 0, none⟩ L2).setCell ⟨w.heap.size + 1, 1, none⟩ F2).cell? ⟨w.heap.size + 1, 1, none⟩ = some F2 ∧
    Below w.heap.size w ((W.setCell ⟨w.heap.size + 1, 0, none⟩ L2).setCell ⟨w.heap.size + 1, 1, none⟩ F2) :=
  ⟨h.k2.cell 0, h.k2.cell 1, h.k2.frozen 0, h.k2.frozen 1, (Blk.two h.k2 L2 F2).cell 0, (Blk.two h.k2 L2 F2).cell 1, Below.one (Below.one h.below (by omega) _) (by omega) _⟩
/-- a row that was made behind the variables, away from what turns, at the end -/
theorem Vs.made {M : Nat → Prop} {A : Option Addr} {B k n c : Nat} {e : TypeId} {xs : List Value} (h : Vs w W L F) (hk : 0 < k) (ho : W.ownsRow B e k (.slice A n c) n xs) (hB : w.heap.size + 2 ≤ B) (hM : ∀ i, M i → i < w.heap.size) (L2 F2 : Value) :
    Aw ((W.setCell ⟨w.heap.size + 1, 0, none⟩ L2).setCell ⟨w.heap.size + 1, 1, none⟩ F2) M A xs :=
  Aw.made hk (ownsRow_setCell_below (ownsRow_setCell_below ho (a := ⟨w.heap.size + 1, 0, none⟩) (by show w.heap.size + 1 < B; omega) _) (a := ⟨w.heap.size + 1, 1, none⟩) (by show w.heap.size + 1 < B; omega) _) fun i hi => by have := hM i hi; omega
end
theorem Rf.sl {W : World} {M : Nat → Prop} {A A' : Option Addr} {c c' : Nat} {d : List (Option Int)} {f : List Nat} (h : Rf W M (.slice A d.length c) (.slice A' f.length c') d f) : Sl W W.heap.size A (d.flatMap rE) ∧ Sl W W.heap.size A' (fv f) := by
  obtain ⟨_, _, _, _, q1, q2, q3, q4, q5, q6⟩ := h
  injection q1 with q1 _ _
  injection q3 with q3 _ _
  subst q1 q3
  exact ⟨q5.sl, q6.sl⟩
set_option maxHeartbeats 1600000 in
/-- the end of Cut: the number is appended -/
theorem rcut_step {w w4 w5 : World} {M : Nat → Prop} {A A' A5 : Option Addr} {c c' c2 c5 g2 k B1 B3 : Nat} {d : List (Option Int)} {f : List Nat} {y : Int} {v4 : Value} (hM : ∀ i, M i → i < w.heap.size) (hk : k < d.length) (hy : d[k] = some y) (hg2 : g2 < B3) (hB1 : w.heap.size + 2 ≤ B1) (hB3 : B1 ≤ B3)
    (ho4 : w4.ownsRow B3 3 1 v4 f.length (fv f)) (ho2 : w4.ownsRow B1 43 2 (.slice (some ⟨g2, 0, none⟩) d.length c2) d.length ((d.set k none).flatMap rE)) (hv4 : Vs w w4 (.slice A d.length c) (.slice A' f.length c'))
    (hg5 : (w4.alloc (.cells #[.int .i64 (k : Int)] 3)).grownBy w5 v4.ownBlock) (ho5 : w5.ownsRow B3 3 1 (.slice A5 (f.length + 1) c5) (f.length + 1) (fv f ++ [.int .i64 (k : Int)])) (hc2 : d.length ≤ c2) (hc5 : f.length + 1 ≤ c5) :
    w5.cell? ⟨w.heap.size + 1, 0, none⟩ = some (.slice none 0 0) ∧ w5.cell? ⟨w.heap.size + 1, 1, none⟩ = some (.slice none 0 0) ∧ w5.frozen? ⟨w.heap.size + 1, 0, none⟩ = false ∧ w5.frozen? ⟨w.heap.size + 1, 1, none⟩ = false ∧
      ((w5.setCell ⟨w.heap.size + 1, 0, none⟩ (.slice (some ⟨g2, 0, none⟩) d.length c2)).setCell ⟨w.heap.size + 1, 1, none⟩ (.slice A5 (f.length + 1) c5)).cell? ⟨w.heap.size + 1, 0, none⟩ = some (.slice (some ⟨g2, 0, none⟩) d.length c2) ∧
      ((w5.setCell ⟨w.heap.size + 1, 0, none⟩ (.slice (some ⟨g2, 0, none⟩) d.length c2)).setCell ⟨w.heap.size + 1, 1, none⟩ (.slice A5 (f.length + 1) c5)).cell? ⟨w.heap.size + 1, 1, none⟩ = some (.slice A5 (f.length + 1) c5) ∧
      RPost w M (cutD d (k : Int)) (cutF d f (k : Int)) (.bool (gt d (k : Int)).isSome) (.returned (.tuple #[.agg #[.slice (some ⟨g2, 0, none⟩) d.length c2, .slice A5 (f.length + 1) c5], .bool true])) ((w5.setCell ⟨w.heap.size + 1, 0, none⟩ (.slice (some ⟨g2, 0, none⟩) d.length c2)).setCell ⟨w.heap.size + 1, 1, none⟩ (.slice A5 (f.length + 1) c5)) := by
  have hlow := fun g e => (own_lt ho4 (g := g) e).1
  have hv5 : Vs w w5 (.slice A d.length c) (.slice A' f.length c') := (hv4.alloc _).grown hg5 fun g e => by have := hlow g e; omega
  have ho2' : w5.ownsRow B1 43 2 (.slice (some ⟨g2, 0, none⟩) d.length c2) d.length ((d.set k none).flatMap rE) :=
    own_only (World.ownsRow.alloc (w := w4) ho2 (.cells #[.int .i64 (k : Int)] 3)) (Only.of_grown hg5 (S := fun i => v4.ownBlock = some i) fun g e => .inl e) fun g e e2 => by
      simp only [Value.ownBlock, Option.some.injEq] at e
      have := hlow g e2
      omega
  obtain ⟨e0, e1, ef0, ef1, hr0, hr1, hbl⟩ := hv5.fin (.slice (some ⟨g2, 0, none⟩) d.length c2) (.slice A5 (f.length + 1) c5)
  refine ⟨e0, e1, ef0, ef1, hr0, hr1, ?_⟩
  have hg := gt_of hk hy
  unfold cutD cutF
  rw [if_pos (by rw [hg]; rfl), if_pos (by rw [hg]; rfl), Int.toNat_natCast]
  refine ⟨_, _, by rw [hg]; rfl, Rf.mk (by simp) (by simp) hc2 hc5 (hv5.made (by decide) ho2' hB1 hM _ _) ?_, hbl⟩
  rw [fv_append]
  exact hv5.made (by decide) ho5 (by omega) hM _ _
set_option maxRecDepth 100000 in
set_option maxHeartbeats 3200000 in
theorem rcut_any {w : World} {M : Nat → Prop} {L F : Value} {d : List (Option Int)} {f : List Nat} (h : Rf w M L F d f) (hi : Inv d f) (i : Int) (hM : ∀ i, M i → i < w.heap.size) (hm : d.length ≤ 5864062014806) :
    Calls Try.prog 10 #[.agg #[L, F], .int .i64 i] w (RPost w M (cutD d i) (cutF d f i) (.bool (gt d i).isSome)) := by
  have hR := h
  have hfl := hi.len
  obtain ⟨A, c, A', c', rfl, hc, rfl, hc', ha, hb⟩ := h
  have hv := Vs.start w (.slice A d.length c) (.slice A' f.length c')
  have HG := Lib.hid (rget_any (w := (w.alloc (.cells #[.slice A d.length c, .slice A' f.length c'] 28)).alloc (.cells #[.slice none 0 0, .slice none 0 0] 28)) (A' := A') (c := c) (m := f.length) (c' := c') (ha.sl.below hv.below) i hv.below.size)
  have HV := Lib.hid hv
  have HR := Lib.hid hR
  clear hR ha hb hv hi
  go_enter Try.func10, Try.ntmps10
  go_wp2_with (fail)
  refine HG.out.mono ?_
  rintro e w1 ⟨rfl, hw⟩
  have hv1 := HV.out.on hw
  clear HV HG hw
  cases hg : gt d i with
  | none =>
    obtain ⟨e0, e1, ef0, ef1, hr0, hr1, hbl⟩ := hv1.fin (.slice A d.length c) (.slice A' f.length c')
    have c0 := hv1.k1.cell 0
    have c1 := hv1.k1.cell 1
    dsimp at c0 c1
    have HE : Hid (RPost w M (cutD d i) (cutF d f i) (.bool (gt d i).isSome) (.returned (.tuple #[.agg #[.slice A d.length c, .slice A' f.length c'], .bool false])) ((w1.setCell ⟨w.heap.size + 1, 0, none⟩ (.slice A d.length c)).setCell ⟨w.heap.size + 1, 1, none⟩ (.slice A' f.length c'))) := Lib.hid (by
      unfold cutD cutF
      rw [if_neg (by rw [hg]; simp), if_neg (by rw [hg]; simp)]
      exact ⟨_, _, by rw [hg]; rfl, HR.out.below hbl, hbl⟩)
    clear hbl HR hg hv1
    go_wp2_with (fail)
    refine bodyPost_ret (v := .tuple #[.agg #[.slice A d.length c, .slice A' f.length c'], .bool false]) (by simp [results, Try.results10, go_sem, hr0, hr1]) rfl ?_
    exact HE.out
  | some y =>
    obtain ⟨k, rfl, hk, hy⟩ := gt_some hg
    have hk2 : k < 5864062014806 := by omega
    have c0 := hv1.k1.cell 0
    dsimp at c0
    have hsl := (HR.out.below hv1.below).sl.1
    have hlen : (d.flatMap rE).length = d.length * 2 := flat_length rE_len d
    have z1 : (k : Int) < (d.length : Int) := by omega
    have HV1 := Lib.hid hv1
    have H2 : Hid (∀ v2 w2, w2.ownsRow w1.heap.size 43 2 v2 (0 + d.length) ([] ++ d.flatMap rE) → w1.grownBy w2 none → ∃ g2 c2, v2 = .slice (some ⟨g2, 0, none⟩) d.length c2 ∧ d.length ≤ c2 ∧
        w2.cell? ⟨g2, k * 2, none⟩ = some (.bool d[k].isSome) ∧ w2.cell? ⟨g2, k * 2 + 1, none⟩ = some (.int .i64 (d[k].getD 0)) ∧ w2.frozen? ⟨g2, k * 2, none⟩ = false ∧ w2.frozen? ⟨g2, k * 2 + 1, none⟩ = false ∧
        (w2.setCell ⟨g2, k * 2, none⟩ (.bool false)).cell? ⟨g2, k * 2 + 1, none⟩ = some (.int .i64 (d[k].getD 0)) ∧ (w2.setCell ⟨g2, k * 2, none⟩ (.bool false)).frozen? ⟨g2, k * 2 + 1, none⟩ = false ∧
        Vs w ((w2.setCell ⟨g2, k * 2, none⟩ (.bool false)).setCell ⟨g2, k * 2 + 1, none⟩ (.int .i64 0)) (.slice A d.length c) (.slice A' f.length c') ∧
        ((w2.setCell ⟨g2, k * 2, none⟩ (.bool false)).setCell ⟨g2, k * 2 + 1, none⟩ (.int .i64 0)).ownsRow w1.heap.size 43 2 (.slice (some ⟨g2, 0, none⟩) d.length c2) d.length ((d.set k none).flatMap rE)) := Lib.hid fun v2 w2 ho hg => by
      simp only [Nat.zero_add, List.nil_append] at ho
      obtain ⟨g2, c2, rfl, hgb, hgl, hc2⟩ := own_form ho (by omega)
      have hsz := HV1.out.size
      obtain ⟨o1, o2, o3, o4, o5, o6, o7⟩ := own_rE2 ho rfl hk none
      exact ⟨g2, c2, rfl, hc2, o2, o3, o4, o5, o6, o7, ((HV1.out.grown hg (fun g e => by cases e)).off (by omega) _).off (by omega) _, o1⟩
    have HK := Lib.hid (And.intro hg hy)
    clear hv1 hg hy
    go_wp2_with (first
      | (at_builtin
         refine wpList_append_slk _ rfl (.const (.slice none 0 0)) (.tmp 19) _ rfl w1.heap.size 43 2 16 Try.underlying25 cellK (by omega) (.slice none 0 0) 0 [] rfl (World.ownsRow_nil _ _ _ _) _ A d.length c (d.flatMap rE) rfl hsl hlen (rE_one d) (by omega) (by unfold maxLen; omega) (Nat.le_refl _) ?_
         intro v2 w2 hown2 hg2 hat2
         obtain ⟨g2, c2, rfl, hc2, p1, p2, p3, p4, p5, p6, hv3, hown3⟩ := H2.out v2 w2 hown2 hg2
         have HV3 := Lib.hid hv3
         have HO3 := Lib.hid hown3
         have hg2l := (own_lt hown3 rfl).2
         have hszw : w1.heap.size ≤ ((w2.setCell ⟨g2, k * 2, none⟩ (.bool false)).setCell ⟨g2, k * 2 + 1, none⟩ (.int .i64 0)).heap.size := (by have := hg2.size; simpa [World.setCell] using this)
         have H5 := Lib.hid (fun v4 w4 A5 c5 w5 => rcut_step (w4 := w4) (w5 := w5) (v4 := v4) (A5 := A5) (c5 := c5) (c2 := c2) (f := f) (g2 := g2) (A := A) (c := c) (A' := A') (c' := c') hM hk HK.out.2 hg2l HV1.out.size hszw)
         have c3 := hv3.k1.cell 1
         have hsl3 := (HR.out.below hv3.below).sl.2
         dsimp at c3
         clear hown2 hg2 hat2 hv3 hown3 H2 hg2l hszw HV1)
      | (at_builtin
         refine wpList_append_sl _ rfl (.const (.slice none 0 0)) (.tmp 27) _ rfl ((w2.setCell ⟨g2, k * 2, none⟩ (.bool false)).setCell ⟨g2, k * 2 + 1, none⟩ (.int .i64 0)).heap.size 3 _ 8 Try.underlying26 intE (.slice none 0 0) 0 [] rfl (World.ownsRow_nil _ _ _ _) _ A' f.length c' (fv f) rfl hsl3 (fv_length f) (fv_one f) (by omega) (by unfold maxLen; omega) (Nat.le_refl _) ?_
         intro v4 w4 hown4 hg4 hat4
         simp only [Nat.zero_add, List.nil_append] at hown4
         have HV4 := Lib.hid (HV3.out.grown hg4 (fun g e => by cases e))
         have HO4 := Lib.hid (own_below HO3.out (((Below.refl _ _).grown hg4 (Nat.le_refl _) (fun g e => by cases e)) : Below ((w2.setCell ⟨g2, k * 2, none⟩ (.bool false)).setCell ⟨g2, k * 2 + 1, none⟩ (.int .i64 0)).heap.size _ w4) (Nat.le_refl _))
         have hsz4 := hg4.size
         clear hg4 hat4 HV3 HO3)
      | (at_builtin
         refine wpList_append_sl _ rfl (.tmp 28) (.tmp 30) _ rfl ((w2.setCell ⟨g2, k * 2, none⟩ (.bool false)).setCell ⟨g2, k * 2 + 1, none⟩ (.int .i64 0)).heap.size 3 _ 8 Try.underlying26 intE v4 f.length (fv f) rfl (World.ownsRow.alloc (w := w4) hown4 _) _ _ 1 1 [.int .i64 k] rfl (Sl.one w4 _ _) rfl (by simp [Value.oneCell']) (by omega) (by unfold maxLen; omega) (by simp only [World.size_alloc]; omega) ?_
         intro v5 w5 hown5 hg5 hat5
         obtain ⟨A5, c5, rfl, hc5⟩ := own_slice hown5
         obtain ⟨e0, e1, ef0, ef1, hr0, hr1, he⟩ := H5.out v4 w4 _ _ w5 hown4 HO4.out HV4.out hg5 hown5 hc2 hc5
         have HE := Lib.hid he
         clear hown4 hown5 hg5 hat5 HO4 HV4 he H5))
    refine bodyPost_ret (v := .tuple #[.agg #[.slice (some ⟨g2, 0, none⟩) d.length c2, .slice A5 (f.length + 1) c5], .bool true]) (by simp [results, Try.results10, go_sem, hr0, hr1]) rfl ?_
    exact HE.out
end Go.Proofs.Yteiggpdondbhoaa.arena
