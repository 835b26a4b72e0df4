/-
  What stands in a row of items, and what lives in the tree (program-free).
-/
import Derived.Test.YtaamlidflfdjkaaBkL
import Derived.Test.YtaamlidflfdjkaaBkC
namespace Go.Proofs.Ytaamlidflfdjkaa.bk
open Go.RowKit law bytes only flat nums ord obj metric tab store
open aro (Kept)
set_option linter.unusedVariables false
theorem gq_mem {q : List (Int × Kept)} {id : Int} : (gq q id).isSome = true ↔ ∃ p ∈ q, p.1 = id := by
  constructor
  · intro h
    rcases Classical.em (∃ p ∈ q, p.1 = id) with h1 | h1
    · exact h1
    · have := gq_take_none (q := q) (id := id) fun p hp e => h1 ⟨p, hp, e⟩
      rw [this] at h
      cases h
  · rintro ⟨p, hp, e⟩
    cases h : gq q id with
    | some y => rfl
    | none => exact absurd e (gq_none h p hp)
theorem gq_false {q : List (Int × Kept)} {id : Int} (h : (gq q id).isSome = false) : ∀ p ∈ q, p.1 ≠ id := fun p hp e => by
  have := gq_mem.2 ⟨p, hp, e⟩
  rw [h] at this
  cases this
theorem insQ_mem {q : List (Int × Kept)} {id : Int} {x : Kept} {p : Int × Kept} : p ∈ insQ q id x ↔ (p ∈ q ∧ p.1 < id) ∨ p = (id, x) ∨ (p ∈ q ∧ id < p.1) := by
  unfold insQ
  simp [List.mem_append, List.mem_filter]
theorem insQ_length {q : List (Int × Kept)} {id : Int} {x : Kept} (h : ∀ p ∈ q, p.1 ≠ id) : (insQ q id x).length = q.length + 1 := by
  unfold insQ
  induction q with
  | nil => rfl
  | cons p q ih =>
    have ih2 := ih fun y hy => h y (by simp [hy])
    have hp := h p (by simp)
    simp only [List.length_append, List.length_cons, List.filter_cons] at ih2 ⊢
    by_cases h1 : p.1 < id
    · have h2 : ¬ id < p.1 := by omega
      simp [h1, h2]
      omega
    · have h2 : id < p.1 := by omega
      simp [h1, h2]
      omega
theorem delQ_length {q : List (Int × Kept)} {id : Int} (hr : RiseQ q) (h : ∃ p ∈ q, p.1 = id) : (delQ q id).length + 1 = q.length := by
  unfold delQ RiseQ at *
  induction q with
  | nil => obtain ⟨p, hp, -⟩ := h; simp at hp
  | cons p q ih =>
    obtain ⟨h1, h2⟩ := List.pairwise_cons.1 hr
    by_cases e : p.1 = id
    · have : ∀ y ∈ q, (y.1 != id) = true := fun y hy => by have := h1 y hy; simp; omega
      rw [List.filter_cons, if_neg (by simp [e]), List.filter_eq_self.2 this]
      rfl
    · obtain ⟨y, hy, hye⟩ := h
      rcases List.mem_cons.1 hy with rfl | hy
      · exact absurd hye e
      · have := ih h2 ⟨y, hy, hye⟩
        rw [List.filter_cons, if_pos (by simp [e]), List.length_cons, List.length_cons]
        omega
theorem live_iff {L : List Bn} {id : Int} : live L id = true ↔ ∃ b ∈ L, b.gone = false ∧ b.id = id := by
  unfold live
  constructor
  · intro h
    obtain ⟨i, hi⟩ := Option.isSome_iff_exists.1 h
    obtain ⟨b, hb, h1, h2⟩ := lv_some hi
    exact ⟨b, List.mem_of_getElem? hb, h1, h2⟩
  · rintro ⟨b, hb, h1, h2⟩
    cases h : lv L id with
    | some i => rfl
    | none => exact absurd h2 (lv_none h b hb h1)
theorem lvs_has (L : List Bn) (id : Int) : ((lvs L).map (·.1)).contains id = live L id := by
  rw [Bool.eq_iff_iff, live_iff]
  unfold lvs
  simp only [List.map_map, List.contains_iff_mem, List.mem_map, List.mem_filter, Function.comp]
  constructor
  · rintro ⟨b, ⟨h1, h2⟩, rfl⟩
    exact ⟨b, h1, by simpa using h2, rfl⟩
  · rintro ⟨b, h1, h2, rfl⟩
    exact ⟨b, ⟨h1, by simp [h2]⟩, rfl⟩
theorem lvs_cnt (L : List Bn) : (lvs L).length = cnt L := by
  unfold lvs cnt
  rw [List.length_map, List.countP_eq_length_filter]
theorem cnt_puts (n : Int) (L : List Bn) (l : List (Int × Thing)) : cnt (puts n L l) = cnt L + l.length := by
  induction l generalizing L with
  | nil => rfl
  | cons q l ih =>
    rw [puts_cons, ih, cnt_snoc, if_neg (by simp [node]), List.length_cons]
    omega
/-- what stands in the items lives in the tree; at most half is gone -/
structure It (L : List Bn) (q : List (Int × Kept)) : Prop where
  rise : RiseQ q
  ids : ∀ id, (gq q id).isSome = live L id
  len : q.length = cnt L
  half : 2 * (L.length - cnt L) ≤ L.length
theorem It.nil : It [] [] := ⟨List.Pairwise.nil, fun id => rfl, rfl, by simp⟩
section
variable {n : Int} {L : List Bn} {q l : List (Int × Kept)} {id : Int} {x : Kept} {i : Nat}
theorem It.put (h : It L q) (hg : (gq q id).isSome = false) : It (L ++ [node n L id x.x]) (insQ q id x) := by
  have hne := gq_false hg
  have hc := cnt_le L
  refine ⟨insQ_rise h.rise, fun j => ?_, ?_, ?_⟩
  · rw [live_snoc _ _ rfl, ← h.ids j, Bool.eq_iff_iff, gq_mem, Bool.or_eq_true, gq_mem, decide_eq_true_iff]
    constructor
    · rintro ⟨p, hp, rfl⟩
      rcases insQ_mem.1 hp with ⟨h1, -⟩ | rfl | ⟨h1, -⟩
      · exact .inl ⟨p, h1, rfl⟩
      · exact .inr rfl
      · exact .inl ⟨p, h1, rfl⟩
    · rintro (⟨p, hp, rfl⟩ | h2)
      · have := hne p hp
        rcases Int.lt_or_gt_of_ne this with h3 | h3
        · exact ⟨p, insQ_mem.2 (.inl ⟨hp, h3⟩), rfl⟩
        · exact ⟨p, insQ_mem.2 (.inr (.inr ⟨hp, h3⟩)), rfl⟩
      · exact ⟨(id, x), insQ_mem.2 (.inr (.inl rfl)), h2⟩
  · rw [insQ_length hne, h.len, cnt_snoc, if_neg (by simp [node])]
  · have := h.half
    rw [cnt_snoc, if_neg (by simp [node]), List.length_append, List.length_singleton]
    omega
theorem rest_half (n : Int) (L : List Bn) : 2 * ((rest n L).length - cnt (rest n L)) ≤ (rest n L).length := by
  unfold rest
  have := cnt_le L
  split
  · rw [cnt_puts, puts_len, lvs_cnt]
    simp [cnt]
  · omega
theorem rest_live (n : Int) (L : List Bn) (id : Int) : live (rest n L) id = live L id := by
  unfold rest
  split
  · rw [live_puts, lvs_has]
    rfl
  · rfl
theorem rest_cnt (n : Int) (L : List Bn) : cnt (rest n L) = cnt L := by
  unfold rest
  split
  · rw [cnt_puts, lvs_cnt]
    simp [cnt]
  · rfl
theorem cutB_is {b : Bn} (hb : L[i]? = some b) : cutB n L i = rest n (L.set i { b with gone := true }) := by
  unfold cutB rest
  rw [hb]
theorem It.cut (h : It L q) (hu : Ul L) (hi : lv L id = some i) : It (cutB n L i) (delQ q id) := by
  obtain ⟨b, hb, hg, hid⟩ := lv_some hi
  have hq : ∃ p ∈ q, p.1 = id := gq_mem.1 (by rw [h.ids, live, hi]; rfl)
  rw [cutB_is hb]
  refine ⟨h.rise.del id, fun j => ?_, ?_, rest_half _ _⟩
  · rw [rest_live, live, lv_gone hu hb hg j, hid]
    by_cases e : j = id
    · subst e
      rw [if_pos rfl]
      have : gq (delQ q j) j = none := gq_take_none fun p hp => by
        have := (List.mem_filter.1 hp).2
        simpa using this
      rw [this]
      rfl
    · rw [if_neg e, ← live, ← h.ids j, Bool.eq_iff_iff, gq_mem, gq_mem]
      constructor
      · rintro ⟨p, hp, hpe⟩
        exact ⟨p, (List.mem_filter.1 hp).1, hpe⟩
      · rintro ⟨p, hp, hpe⟩
        exact ⟨p, List.mem_filter.2 ⟨hp, by rw [hpe]; simpa using e⟩, hpe⟩
  · have h1 := delQ_length h.rise hq
    have h2 := cnt_gone hb hg
    have h3 := h.len
    rw [rest_cnt]
    omega
/-- Bulk, thing by thing -/
theorem It.bulk (h : It L q) : ∀ i, i ≤ l.length → (∃ r, bst q (l.take i) = some r ∧ It (puts n L (rM (l.take i))) r ∧ ∀ j, j < i → idx.dup (live L) (idx.ids l) j = false) ∨ (bst q (l.take i) = none ∧ ∃ j, j < i ∧ idx.dup (live L) (idx.ids l) j = true)
  | 0, _ => .inl ⟨q, rfl, h, fun j hj => by omega⟩
  | i + 1, hi => by
    have hil : i < l.length := by omega
    have hnx := bst_next (q := q) hil
    rcases It.bulk h i (by omega) with ⟨r, h1, h2, h3⟩ | ⟨h1, j, h2, h3⟩
    · rw [h1] at hnx
      have hd : idx.dup (live L) (idx.ids l) i = (gq r l[i].1).isSome := by
        have e1 : (idx.ids l)[i]? = some l[i].1 := by simp [idx.ids, hil]
        have e2 : (idx.ids l).take i = (rM (l.take i)).map (·.1) := by simp [idx.ids, rM, List.map_take]; rfl
        unfold idx.dup
        rw [e1, h2.ids, live_puts, e2, Bool.or_comm]
      cases hg : (gq r l[i].1).isSome with
      | true => exact .inr ⟨by rw [hnx]; unfold bput; simp [hg], i, by omega, by rw [hd, hg]⟩
      | false =>
        refine .inl ⟨insQ r l[i].1 l[i].2, by rw [hnx]; unfold bput; simp [hg], ?_, fun j hj => ?_⟩
        · have e : rM (l.take (i + 1)) = rM (l.take i) ++ [(l[i].1, l[i].2.x)] := by
            unfold rM
            rw [List.take_succ_eq_append_getElem hil, List.map_append]
            rfl
          rw [e, puts_snoc]
          exact h2.put hg
        · rcases Nat.lt_or_ge j i with h4 | h4
          · exact h3 j h4
          · obtain rfl : j = i := by omega
            rw [hd, hg]
    · rw [h1] at hnx
      exact .inr ⟨hnx, j, by omega, h3⟩
end
end Go.Proofs.Ytaamlidflfdjkaa.bk
