/-
  A tree's turns, one by one: a node more, a hook more, a kid more, a place more, a node gone.
-/
import Derived.Test.YtaamlidflfdjkaaBk
namespace Go.Proofs.Ytaamlidflfdjkaa.bk
open Go.RowKit Go.WideShapes law bytes only flat nums ord obj metric tab
open told (own_types blk_types)
open Go.Maps Go.ChangeAt
set_option linter.unusedVariables false

theorem flat_one {α : Type} {E : α → List Value} {k : Nat} (hk : ∀ x, (E x).length = k) : ∀ (l : List α) (i : Nat) (hi : i < l.length) (j : Nat) (hj : j < k) (u : Value) (y : α) (hy : E y = (E l[i]).set j u), (l.flatMap E).set (i * k + j) u = (l.set i y).flatMap E
  | [], i, hi, _, _, _, _, _ => by simp at hi
  | a :: l, 0, hi, j, hj, u, y, hy => by
    simp only [List.flatMap_cons, List.set_cons_zero, Nat.zero_mul, Nat.zero_add]
    rw [List.set_append_left _ _ (by rw [hk]; exact hj), hy]
    rfl
  | a :: l, i + 1, hi, j, hj, u, y, hy => by
    simp only [List.flatMap_cons, List.set_cons_succ]
    rw [List.set_append_right _ _ (by rw [hk, Nat.succ_mul]; omega), hk, show (i + 1) * k + j - k = i * k + j by rw [Nat.succ_mul]; omega]
    rw [flat_one hk l i (by simpa using hi) j hj u y (by simpa using hy)]
theorem map_set_same {N : List Nd} {i : Nat} {d d' : Nd} (hi : N[i]? = some d) (h : bn d' = bn d) : (N.set i d').map bn = N.map bn := by
  rw [List.map_set, h]
  refine List.ext_getElem? fun j => ?_
  rw [List.getElem?_set]
  split
  · rename_i e
    subst e
    rw [List.getElem?_map, hi]
    have := (List.getElem?_eq_some_iff.1 hi).1
    simp [this]
  · rfl
section
variable {w w' w1 : World} {base tb g hb pb mh mp B : Nat} {n k : Int} {T S : Nat → Prop} {vN v4 : Value} {N : List Nd} {DH DP D1 : DataW Unit} {d : Nd} {t t' : TypeId} {A : Option Addr} {xs : List Value}
/-- T, and what came from block B on -/
def Tm (B : Nat) (T : Nat → Prop) (w : World) (i : Nat) : Prop := T i ∨ B ≤ i ∧ i < w.heap.size
/-- things' numbers are left as they are -/
def Kv (w w' : World) : Prop := ∀ i, Ty w i 21 → w'.heap[i]? = w.heap[i]?
theorem Kv.refl (w : World) : Kv w w := fun _ _ => rfl
theorem Kv.trans {w2 : World} (h : Kv w w') (k : Kv w' w2) : Kv w w2 := fun i e => (k i (e.keep (h i e))).trans (h i e)
theorem Kv.of (o : Only S w w') (hS : ∀ i, S i → ¬ Ty w i 21) : Kv w w' := fun i e => o.block i e.lt fun h => hS i h e
theorem Kv.cl (o : Only S w w') (c : Cl w S t) (ht : t ≠ 21) : Kv w w' := Kv.of o fun i h e => ht ((c i h).one e)
theorem Kv.below (o : Below w.heap.size w w') : Kv w w' := fun i e => o.block i e.lt
theorem Kv.vc (k : Kv w w') (h : Vc w T A xs) : Vc w' T A xs := fun j u hj => by
  obtain ⟨a, e, ht, hy, hc⟩ := h j u hj
  exact ⟨a, e, ht, hy.keep (k _ hy), (World.cell?_of_block (a := a.add j) (by rw [blk_add]; exact k _ hy)).trans hc⟩
theorem Bm.mono {T' : Nat → Prop} (h : Bm w base tb g hb pb mh mp n k T vN N DH DP) (hT : ∀ i, T i → T' i) (hl : ∀ i, T' i → base ≤ i ∧ i < w.heap.size) : Bm w base tb g hb pb mh mp n k T' vN N DH DP :=
  ⟨h.blk, h.mt, h.gb, h.row, h.hm, h.pm, h.hp, fun d hd => (h.nx d hd).mono hT, h.ap, hl, hT _ h.tt, hT _ h.th, hT _ h.tp, fun i e => hT _ (h.tN i e)⟩
theorem Bx.mono {T' : Nat → Prop} (h : Bx w base tb g n k T N) (hT : ∀ i, T i → T' i) (hl : ∀ i, T' i → base ≤ i ∧ i < w.heap.size) : Bx w base tb g n k T' N := by
  obtain ⟨hb, pb, mh, mp, vN, DH, DP, h1, h2⟩ := h
  exact ⟨hb, pb, mh, mp, vN, DH, DP, h1.mono hT hl, h2⟩
set_option maxHeartbeats 1600000 in
theorem Bm.push (h : Bm w base tb g hb pb mh mp n k T vN N DH DP) (ho : Only (fun i => vN.ownBlock = some i) w w1) (hrow : w1.ownsRow base 82 8 v4 (N.length + 1) (N.flatMap ndC ++ ndC d))
    (hv4 : v4.ownBlock = vN.ownBlock ∨ ∃ i, v4.ownBlock = some i ∧ w.heap.size ≤ i) (hks : d.ks = []) (hv : d.v = .slice none 0 0) (hvec : Vc w T d.t.a (iv d.t.x.vec)) (hbf : Bf d.t.x) (hwf : (Lit.int .u64 d.id).wf = true) :
    Bm (w1.setCell ⟨tb, 1, none⟩ v4) base tb g hb pb mh mp n k (Tm w.heap.size T w1) v4 (N ++ [d]) DH DP ∧ Only T w (w1.setCell ⟨tb, 1, none⟩ v4) ∧ Kv w (w1.setCell ⟨tb, 1, none⟩ v4) := by
  have s1 := ho.size
  have c1 : Cl w (fun i => vN.ownBlock = some i) 82 := Cl.row h.row
  have blk1 := Blk.only h.blk ho (c1.off (by decide) (Ty.blk h.blk))
  have hne : v4.ownBlock ≠ some tb := blk_types hrow blk1 (by decide)
  obtain ⟨w3, hw3⟩ : ∃ w3, w3 = w1.setCell ⟨tb, 1, none⟩ v4 := ⟨_, rfl⟩
  have hz3 : w3.heap.size = w1.heap.size := by rw [hw3]; simp [World.setCell]
  have ho3 : Only (· = tb) w1 w3 := by rw [hw3]; exact Only.setCell (S := (· = tb)) (p := ⟨tb, 1, none⟩) (Only.refl _ _) (.inl rfl) _
  have c3 : Cl w1 (· = tb) 72 := Cl.blk blk1
  have mt1 := Blk.only h.mt ho (c1.off (by decide) (Ty.blk h.mt))
  have hm1 := map_only h.hm ho (c1.mapOff h.hm)
  have pm1 := map_only h.pm ho (c1.mapOff h.pm)
  have hO : Only T w w3 := (ho.mono (T := T) fun i e => .inl (h.tN i e)).trans ho3 fun i e => .inl (by rw [e]; exact h.tt)
  have hT : ∀ i, T i → Tm w.heap.size T w1 i := fun i e => .inl e
  rw [← hw3]
  refine ⟨⟨?_, Blk.only mt1 ho3 (c3.off (by decide) (Ty.blk mt1)), h.gb, ?_, map_only hm1 ho3 (c3.mapOff hm1), map_only pm1 ho3 (c3.mapOff pm1), h.hp, ?_, ?_, ?_, .inl h.tt, .inl h.th, .inl h.tp, ?_⟩, hO, (Kv.cl ho c1 (by decide)).trans (Kv.cl ho3 c3 (by decide))⟩
  · rw [hw3]
    exact blk1.set_ 1 v4
  · rw [List.length_append, List.flatMap_append]
    simp only [List.length_singleton, List.flatMap_cons, List.flatMap_nil, List.append_nil]
    exact own_only hrow ho3 fun i e e2 => hne (by rw [e, e2])
  · intro q hq
    rcases List.mem_append.1 hq with hq | hq
    · have q1 := (h.nx q hq).cl ho c1 (by decide) (by decide)
      exact (q1.cl ho3 c3 (by decide) (by decide)).mono hT
    · simp only [List.mem_singleton] at hq
      subst hq
      refine ⟨by rw [hks, hv]; exact World.ownsRow_nil _ _ _ _, ?_, hbf, hwf, fun i e => by rw [hv] at e; cases e⟩
      have q1 := hvec.only ho fun i _ e => c1.off (by decide) e
      exact (q1.only ho3 fun i _ e => c3.off (by decide) e).mono hT
  · refine List.pairwise_append.2 ⟨h.ap, List.pairwise_singleton _ _, fun q hq s hs => ?_⟩
    simp only [List.mem_singleton] at hs
    subst hs
    intro i e e2
    rw [hv] at e2
    cases e2
  · intro i e
    rcases e with e | e
    · exact ⟨(h.low i e).1, by have := (h.low i e).2; omega⟩
    · exact ⟨by have := h.base_le; omega, by omega⟩
  · intro i e
    rcases hv4 with e4 | ⟨j, e4, hj⟩
    · rw [e4] at e
      exact .inl (h.tN i e)
    · have hl := (own_lt hrow e).2
      rw [e4] at e
      injection e with e
      subst e
      exact .inr ⟨hj, hl⟩
theorem Bm.hung (h : Bm w base tb g hb pb mh mp n k T vN N DH DP) (ho : Only (· = hb) w w1) (hm : w1.ownsMap Try.prog 97 (plainElem (H := Unit) Try.prog 3) hb (mh + 1) D1) : Bm w1 base tb g hb pb (mh + 1) mp n k T vN N D1 DP := by
  have hS : ∀ i, i = hb → ∀ t, ¬ Ty w i t := fun i e t hy => by subst e; exact Ty.map h.hm hy
  exact ⟨Blk.only h.blk ho fun e => hS _ e _ (Ty.blk h.blk), Blk.only h.mt ho fun e => hS _ e _ (Ty.blk h.mt), h.gb, own_only h.row ho fun i e e2 => hS _ e2 _ (Ty.own h.row e), hm, map_only h.pm ho fun e => h.hp e.symm, h.hp,
    fun d hd => (h.nx d hd).map ho hS, h.ap, fun i e => ⟨(h.low i e).1, Nat.lt_of_lt_of_le (h.low i e).2 ho.size⟩, h.tt, h.th, h.tp, h.tN⟩
theorem Bm.placed {m : Nat} (h : Bm w base tb g hb pb mh mp n k T vN N DH DP) (ho : Only (· = pb) w w1) (hm : w1.ownsMap Try.prog 33 (plainElem (H := Unit) Try.prog 3) pb m D1) : Bm w1 base tb g hb pb mh m n k T vN N DH D1 := by
  have hS : ∀ i, i = pb → ∀ t, ¬ Ty w i t := fun i e t hy => by subst e; exact Ty.map h.pm hy
  exact ⟨Blk.only h.blk ho fun e => hS _ e _ (Ty.blk h.blk), Blk.only h.mt ho fun e => hS _ e _ (Ty.blk h.mt), h.gb, own_only h.row ho fun i e e2 => hS _ e2 _ (Ty.own h.row e), map_only h.hm ho fun e => h.hp e, hm, h.hp,
    fun d hd => (h.nx d hd).map ho hS, h.ap, fun i e => ⟨(h.low i e).1, Nat.lt_of_lt_of_le (h.low i e).2 ho.size⟩, h.tt, h.th, h.tp, h.tN⟩
theorem pair_set {N : List Nd} (h : N.Pairwise Apn) {i : Nat} {d d' : Nd} (hi : N[i]? = some d) (hd : ∀ e, Apn d e → e ∈ N → Apn d' e) : (N.set i d').Pairwise Apn := by
  rw [List.pairwise_iff_getElem] at h ⊢
  obtain ⟨hil, rfl⟩ := List.getElem?_eq_some_iff.1 hi
  intro a b ha hb hab
  simp only [List.length_set] at ha hb
  rw [List.getElem_set, List.getElem_set]
  split
  · rename_i e
    subst e
    rw [if_neg (by omega)]
    exact hd _ (h _ b _ hb hab) (List.getElem_mem _)
  · split
    · rename_i e
      subst e
      exact (hd _ (h a _ ha _ hab).symm (List.getElem_mem _)).symm
    · exact h a b ha hb hab
set_option maxHeartbeats 1600000 in
theorem Bm.kid {i j rb c : Nat} (h : Bm w base tb g hb pb mh mp n k T (.slice (some ⟨rb, 0, none⟩) N.length c) N DH DP) (hi : N[i]? = some d) (ho : Only (fun q => d.v.ownBlock = some q) w w1) (hrow : w1.ownsRow base 3 1 v4 (d.ks.length + 1) (kv d.ks ++ [.int .i64 (j : Int)]))
    (hv4 : v4.ownBlock = d.v.ownBlock ∨ ∃ q, v4.ownBlock = some q ∧ w.heap.size ≤ q) :
    Bm (w1.setCell ⟨rb, i * 8 + 7, none⟩ v4) base tb g hb pb mh mp n k (Tm w.heap.size T w1) (.slice (some ⟨rb, 0, none⟩) N.length c) (N.set i { d with ks := d.ks ++ [j], v := v4 }) DH DP ∧ Only T w (w1.setCell ⟨rb, i * 8 + 7, none⟩ v4) ∧ Kv w (w1.setCell ⟨rb, i * 8 + 7, none⟩ v4) := by
  have s1 := ho.size
  obtain ⟨hil, hid⟩ := List.getElem?_eq_some_iff.1 hi
  have hdN : d ∈ N := List.mem_of_getElem? hi
  have hd0 := h.nx d hdN
  have c1 : Cl w (fun q => d.v.ownBlock = some q) 3 := Cl.row hd0.ints
  have blk1 := Blk.only h.blk ho (c1.off (by decide) (Ty.blk h.blk))
  have row1 := own_only h.row ho fun q e => c1.off (by decide) (Ty.own h.row e)
  have mt1 := Blk.only h.mt ho (c1.off (by decide) (Ty.blk h.mt))
  have hm1 := map_only h.hm ho (c1.mapOff h.hm)
  have pm1 := map_only h.pm ho (c1.mapOff h.pm)
  obtain ⟨w3, hw3⟩ : ∃ w3, w3 = w1.setCell ⟨rb, i * 8 + 7, none⟩ v4 := ⟨_, rfl⟩
  have hz3 : w3.heap.size = w1.heap.size := by rw [hw3]; simp [World.setCell]
  have ho3 : Only (· = rb) w1 w3 := by rw [hw3]; exact Only.setCell (S := (· = rb)) (p := ⟨rb, i * 8 + 7, none⟩) (Only.refl _ _) (.inl rfl) _
  have c3 : Cl w1 (· = rb) 82 := fun q e => by subst e; exact Ty.own row1 rfl
  have hO : Only T w w3 := (ho.mono (T := T) fun q e => .inl (hd0.tv q e)).trans ho3 fun q e => .inl (by rw [e]; exact h.tN rb rfl)
  have hT : ∀ q, T q → Tm w.heap.size T w1 q := fun q e => .inl e
  rw [← hw3]
  refine ⟨⟨Blk.only blk1 ho3 (c3.off (by decide) (Ty.blk blk1)), Blk.only mt1 ho3 (c3.off (by decide) (Ty.blk mt1)), h.gb, ?_, map_only hm1 ho3 (c3.mapOff hm1), map_only pm1 ho3 (c3.mapOff pm1), h.hp, ?_, ?_, ?_, .inl h.tt, .inl h.th, .inl h.tp, fun q e => .inl (h.tN q e)⟩, hO, (Kv.cl ho c1 (by decide)).trans (Kv.cl ho3 c3 (by decide))⟩
  · rw [List.length_set, ← flat_one ndC_len N i hil 7 (by omega) v4 { d with ks := d.ks ++ [j], v := v4 } (by rw [hid]; rfl), hw3]
    exact own_set row1 (i * 8 + 7) v4
  · intro q hq
    obtain ⟨a, ha⟩ := List.mem_iff_getElem?.1 hq
    rw [List.getElem?_set] at ha
    split at ha
    rotate_left
    · rename_i hne
      obtain ⟨hal, haq⟩ := List.getElem?_eq_some_iff.1 ha
      have hp := List.pairwise_iff_getElem.1 h.ap
      have q1 := h.nx q (List.mem_of_getElem? ha)
      have hap : Apn d q := by
        rcases Nat.lt_or_gt_of_ne hne with hl | hl
        · have := hp i a hil hal hl
          rw [haq, hid] at this
          exact this
        · have := hp a i hal hil hl
          rw [haq, hid] at this
          exact this.symm
      have q2 : Nx w1 base T q := ⟨own_only q1.ints ho fun i' e e2 => hap i' e2 e, q1.vec.only ho fun i' _ e => c1.off (by decide) e, q1.bf, q1.wf, q1.tv⟩
      exact (q2.cl ho3 c3 (by decide) (by decide)).mono hT
    · rename_i e
      subst e
      simp only [Option.some.injEq] at ha
      subst ha
      refine ⟨?_, ((hd0.vec.only ho fun i' _ e => c1.off (by decide) e).only ho3 fun i' _ e => c3.off (by decide) e).mono hT, hd0.bf, hd0.wf, fun q e => ?_⟩
      · show w3.ownsRow base 3 1 v4 (d.ks ++ [j]).length (kv (d.ks ++ [j]))
        rw [List.length_append, kv_snoc]
        exact own_only hrow ho3 fun q e => c3.off (by decide) (Ty.own hrow e)
      · replace e : v4.ownBlock = some q := e
        rcases hv4 with e4 | ⟨z, e4, hz⟩
        · rw [e4] at e
          exact .inl (hd0.tv q e)
        · have hl := (own_lt hrow e).2
          rw [e4] at e
          injection e with e
          subst e
          exact .inr ⟨hz, hl⟩
  · refine pair_set h.ap hi fun e he hm q h1 h2 => ?_
    replace h1 : v4.ownBlock = some q := h1
    rcases hv4 with e4 | ⟨z, e4, hz⟩
    · rw [e4] at h1
      exact he q h1 h2
    · rw [e4] at h1
      injection h1 with h1
      subst h1
      have := (own_lt (h.nx e hm).ints h2).2
      omega
  · intro q e
    rcases e with e | e
    · exact ⟨(h.low q e).1, by have := (h.low q e).2; omega⟩
    · exact ⟨by have := h.base_le; omega, by omega⟩
theorem Bm.goneAt {i rb c : Nat} (h : Bm w base tb g hb pb mh mp n k T (.slice (some ⟨rb, 0, none⟩) N.length c) N DH DP) (hi : N[i]? = some d) :
    Bm (w.setCell ⟨rb, i * 8 + 4, none⟩ (.bool true)) base tb g hb pb mh mp n k T (.slice (some ⟨rb, 0, none⟩) N.length c) (N.set i { d with gone := true }) DH DP ∧ Only T w (w.setCell ⟨rb, i * 8 + 4, none⟩ (.bool true)) := by
  obtain ⟨hil, hid⟩ := List.getElem?_eq_some_iff.1 hi
  have hd0 := h.nx d (List.mem_of_getElem? hi)
  obtain ⟨w3, hw3⟩ : ∃ w3, w3 = w.setCell ⟨rb, i * 8 + 4, none⟩ (.bool true) := ⟨_, rfl⟩
  have hz3 : w3.heap.size = w.heap.size := by rw [hw3]; simp [World.setCell]
  have ho3 : Only (· = rb) w w3 := by rw [hw3]; exact Only.setCell (S := (· = rb)) (p := ⟨rb, i * 8 + 4, none⟩) (Only.refl _ _) (.inl rfl) _
  have c3 : Cl w (· = rb) 82 := fun q e => by subst e; exact Ty.own h.row rfl
  rw [← hw3]
  refine ⟨⟨Blk.only h.blk ho3 (c3.off (by decide) (Ty.blk h.blk)), Blk.only h.mt ho3 (c3.off (by decide) (Ty.blk h.mt)), h.gb, ?_, map_only h.hm ho3 (c3.mapOff h.hm), map_only h.pm ho3 (c3.mapOff h.pm), h.hp, ?_, ?_, fun q e => ⟨(h.low q e).1, by have := (h.low q e).2; omega⟩, h.tt, h.th, h.tp, h.tN⟩, ho3.mono fun q e => .inl (by rw [e]; exact h.tN rb rfl)⟩
  · rw [List.length_set, ← flat_one ndC_len N i hil 4 (by omega) (.bool true) { d with gone := true } (by rw [hid]; rfl), hw3]
    exact own_set h.row (i * 8 + 4) _
  · intro q hq
    rcases List.mem_or_eq_of_mem_set hq with hq | rfl
    · exact (h.nx q hq).cl ho3 c3 (by decide) (by decide)
    · have q1 := hd0.cl ho3 c3 (by decide) (by decide)
      exact ⟨q1.ints, q1.vec, q1.bf, q1.wf, q1.tv⟩
  · exact pair_set h.ap hi fun e he hm q h1 h2 => he q h1 h2
end
end Go.Proofs.Ytaamlidflfdjkaa.bk
