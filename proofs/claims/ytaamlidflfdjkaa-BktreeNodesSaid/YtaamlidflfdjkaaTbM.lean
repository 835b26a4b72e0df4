/-
  Program-free: where numbers stand, as a map tells it: behind a number more, behind a number that is taken out and replaced by the last one.
-/
import Derived.Maps.OwnSet
import Derived.Test.YtaamlidflfdjkaaRows
namespace Go.Proofs.Ytaamlidflfdjkaa.tab
open Go.WideShapes
set_option linter.unusedVariables false

def ky (id : Int) : Lit := .int .u64 id
theorem ky_ne {a b : Int} (h : a ≠ b) : ky a ≠ ky b := fun e => h (by injection e)
theorem ky_key (a : Int) : WideAt.IsKeyLit (ky a) := trivial
/-- a map tells of each number where it stands -/
def Pl (D : DataW Unit) (ids : List Int) : Prop :=
  Maps.Tidy D ∧ Maps.size D = ids.length ∧ (∀ id, Maps.has D (ky id) = ids.contains id) ∧ ∀ (j : Nat) (id : Int), ids[j]? = some id → ∀ z, D.atKey (ky id) z = .lit (.int .i64 j)
theorem Pl.nil : Pl (.map []) [] := ⟨Maps.tidy_empty, rfl, fun _ => rfl, fun j id h => by simp at h⟩
section
variable {D : DataW Unit} {ids : List Int} {id : Int}
theorem Pl.put (h : Pl D ids) (hn : ids.contains id = false) : Pl (D.put (ky id) (.lit (.int .i64 ids.length))) (ids ++ [id]) := by
  obtain ⟨h1, h2, h3, h4⟩ := h
  refine ⟨h1.put (ky_key _) _, ?_, fun x => ?_, fun j x hx z => ?_⟩
  · rw [Maps.size_put h1, h3, hn, h2]
    simp
  · by_cases e : x = id
    · subst e
      rw [Maps.has_put_same h1.isMap (ky_key _)]
      simp
    · rw [Maps.has_put_other (ky_ne e), h3]
      have : ¬ id = x := fun h => e h.symm
      simp [e]
  · by_cases e : x = id
    · subst e
      rw [Maps.atKey_put_same h1.isMap (ky_key _)]
      have hc : x ∉ ids := by simpa using hn
      rw [List.getElem?_append] at hx
      split at hx
      · exact absurd (List.mem_of_getElem? hx) hc
      · rename_i hl
        have := (List.getElem?_eq_some_iff.1 hx).1
        simp at this
        congr 2
        omega
    · rw [Maps.atKey_put_other (ky_ne e)]
      refine h4 j x ?_ z
      rw [List.getElem?_append] at hx
      split at hx
      · exact hx
      · have := List.mem_of_getElem? hx
        simp at this
        exact absurd this e
/-- what is left where place k is taken by the last one -/
def cutAt {α : Type} (l : List α) (k : Nat) : List α := match l.getLast? with
  | some x => (l.set k x).dropLast
  | none => []
theorem cutAt_last {α : Type} {l : List α} (h : 0 < l.length) : cutAt l (l.length - 1) = l.dropLast := by
  unfold cutAt
  cases e : l.getLast? with
  | none => rw [List.getLast?_eq_none_iff] at e; subst e; simp at h
  | some x =>
    obtain ⟨r, rfl⟩ : ∃ r, l = r ++ [x] := List.getLast?_eq_some_iff.1 e
    simp
theorem cutAt_before {α : Type} {r : List α} {x : α} {k : Nat} (h : k < r.length) : cutAt (r ++ [x]) k = r.set k x := by
  unfold cutAt
  rw [List.getLast?_concat]
  simp [h]
theorem cutAt_length {α : Type} (l : List α) (k : Nat) : (cutAt l k).length = l.length - 1 := by
  unfold cutAt
  cases e : l.getLast? with
  | none => rw [List.getLast?_eq_none_iff] at e; subst e; rfl
  | some x => simp
theorem cutAt_map {α β : Type} (f : α → β) (l : List α) (k : Nat) : (cutAt l k).map f = cutAt (l.map f) k := by
  unfold cutAt
  rw [List.getLast?_map]
  cases e : l.getLast? with
  | none => rfl
  | some x => simp [List.map_set, List.map_dropLast]
/-- the same ones but one are left -/
theorem cutAt_perm {α : Type} {l : List α} {k : Nat} (h : k < l.length) : (l[k] :: cutAt l k).Perm l := by
  rcases List.eq_nil_or_concat l with rfl | ⟨r, x, rfl⟩
  · simp at h
  · simp only [List.concat_eq_append] at h ⊢
    by_cases hk : k < r.length
    · rw [cutAt_before hk]
      have e1 : (r ++ [x])[k] = r[k] := by simp [hk]
      rw [e1]
      have e2 : r = r.take k ++ r[k] :: r.drop (k + 1) := by rw [List.getElem_cons_drop, List.take_append_drop]
      have e3 : r.set k x = r.take k ++ x :: r.drop (k + 1) := by rw [List.set_eq_take_append_cons_drop, if_pos hk]
      rw [e3]
      have p1 : (r[k] :: (r.take k ++ x :: r.drop (k + 1))).Perm (r[k] :: x :: (r.take k ++ r.drop (k + 1))) := List.Perm.cons _ List.perm_middle
      refine p1.trans ?_
      have p2 : (r ++ [x]).Perm (x :: r) := List.perm_append_comm
      refine List.Perm.trans ?_ p2.symm
      refine (List.Perm.swap _ _ _).trans (List.Perm.cons _ ?_)
      conv => rhs; rw [e2]
      exact List.perm_middle.symm
    · have hk2 : k = r.length := by simp at h; omega
      subst hk2
      have e1 : cutAt (r ++ [x]) r.length = r := by
        have := cutAt_last (l := r ++ [x]) (by simp)
        simpa using this
      rw [e1]
      simp only [List.getElem_concat_length]
      exact (List.perm_append_comm (l₁ := r) (l₂ := [x])).symm
theorem Pl.cut (h : Pl D ids) (hd : ids.Nodup) {k : Nat} (hk : k + 1 < ids.length) {id y : Int} (hi : ids[k]? = some id) (hy : ids[ids.length - 1]? = some y) :
    Pl ((D.del (ky id)).put (ky y) (.lit (.int .i64 k))) (cutAt ids k) := by
  obtain ⟨h1, h2, h3, h4⟩ := h
  obtain ⟨r, x, rfl⟩ : ∃ r x, ids = r ++ [x] := by
    rcases List.eq_nil_or_concat ids with rfl | ⟨r, x, e⟩
    · simp at hk
    · exact ⟨r, x, by simpa using e⟩
  have hl : (r ++ [x]).length = r.length + 1 := by simp
  have hkr : k < r.length := by omega
  have ex : y = x := by rw [hl, Nat.add_sub_cancel, List.getElem?_concat_length] at hy; injection hy with hy; exact hy.symm
  subst ex
  have hik : r[k]? = some id := by rwa [List.getElem?_append_left hkr] at hi
  have hik2 : r[k] = id := by rw [List.getElem?_eq_getElem hkr] at hik; injection hik
  rw [cutAt_before hkr]
  obtain ⟨hdr, -, hdx⟩ := List.nodup_append.1 hd
  have hyr : y ∉ r := fun e => hdx y e y (by simp) rfl
  have hid : id ∈ r := List.mem_of_getElem? hik
  have hne : y ≠ id := fun e => hyr (e ▸ hid)
  have t1 := h1.del (ky id)
  have hhas : Maps.has (D.del (ky id)) (ky y) = true := by rw [Maps.has_del_other (ky_ne hne), h3]; simp
  have key : ∀ j z, (r.set k y)[j]? = some z → z ≠ y → z ≠ id ∧ r[j]? = some z := fun j z hz hzy => by
    rw [List.getElem?_set] at hz
    split at hz
    · exact absurd (Option.some.inj hz).symm hzy
    · rename_i hkj
      refine ⟨fun e => hkj ?_, hz⟩
      subst e
      have hj := (List.getElem?_eq_some_iff.1 hz).1
      have hzj : r[j] = r[k] := by rw [hik2]; rw [List.getElem?_eq_getElem hj] at hz; injection hz
      rcases Nat.lt_trichotomy k j with h | h | h
      · exact absurd hzj.symm (List.pairwise_iff_getElem.1 hdr k j hkr hj h)
      · exact h
      · exact absurd hzj (List.pairwise_iff_getElem.1 hdr j k hj hkr h)
  refine ⟨t1.put (ky_key _) _, ?_, fun z => ?_, fun j z hz w => ?_⟩
  · rw [Maps.size_put t1, hhas, if_pos rfl, List.length_set]
    have := Maps.size_del (k := ky id) h1
    rw [h3, h2, hl] at this
    have hc : (r ++ [y]).contains id = true := by simp [hid]
    rw [hc, if_pos rfl] at this
    omega
  · by_cases e : z = y
    · subst e
      rw [Maps.has_put_same t1.isMap (ky_key _)]
      have : z ∈ r.set k z := List.mem_iff_getElem?.2 ⟨k, by rw [List.getElem?_set_self hkr]⟩
      simpa using this
    · rw [Maps.has_put_other (ky_ne e)]
      by_cases e2 : z = id
      · subst e2
        rw [Maps.has_del_same]
        have : z ∉ r.set k y := fun hm => by
          obtain ⟨j, hj⟩ := List.mem_iff_getElem?.1 hm
          exact (key j z hj e).1 rfl
        simpa using this
      · rw [Maps.has_del_other (ky_ne e2), h3]
        have hiff : z ∈ r ++ [y] ↔ z ∈ r.set k y := by
          constructor
          · intro hm
            simp only [List.mem_append, List.mem_singleton] at hm
            rcases hm with hm | hm
            · obtain ⟨j, hj⟩ := List.mem_iff_getElem?.1 hm
              refine List.mem_iff_getElem?.2 ⟨j, ?_⟩
              rw [List.getElem?_set, if_neg, hj]
              intro ekj
              subst ekj
              rw [hik] at hj
              injection hj with hj
              exact e2 hj.symm
            · exact absurd hm e
          · intro hm
            obtain ⟨j, hj⟩ := List.mem_iff_getElem?.1 hm
            exact List.mem_append_left _ (List.mem_of_getElem? (key j z hj e).2)
        by_cases hm : z ∈ r ++ [y]
        · rw [List.contains_iff_mem.2 hm, List.contains_iff_mem.2 (hiff.1 hm)]
        · have hm2 : z ∉ r.set k y := fun h => hm (hiff.2 h)
          rw [show (r ++ [y]).contains z = false by simpa using hm, show (r.set k y).contains z = false by simpa using hm2]
  · by_cases e : z = y
    · subst e
      rw [Maps.atKey_put_same t1.isMap (ky_key _)]
      rw [List.getElem?_set] at hz
      split at hz
      · rename_i hkj
        subst hkj
        rfl
      · exact absurd (List.mem_of_getElem? hz) hyr
    · rw [Maps.atKey_put_other (ky_ne e)]
      obtain ⟨h5, h6⟩ := key j z hz e
      rw [Maps.atKey_del_other (ky_ne h5)]
      refine h4 j z ?_ w
      rw [List.getElem?_append_left (List.getElem?_eq_some_iff.1 h6).1]
      exact h6
theorem Pl.cut_last (h : Pl D ids) (hd : ids.Nodup) {id : Int} (hi : ids[ids.length - 1]? = some id) : Pl (D.del (ky id)) (cutAt ids (ids.length - 1)) := by
  obtain ⟨h1, h2, h3, h4⟩ := h
  obtain ⟨r, x, rfl⟩ : ∃ r x, ids = r ++ [x] := by
    rcases List.eq_nil_or_concat ids with rfl | ⟨r, x, e⟩
    · simp at hi
    · exact ⟨r, x, by simpa using e⟩
  have hl : (r ++ [x]).length = r.length + 1 := by simp
  have ex : id = x := by rw [hl, Nat.add_sub_cancel, List.getElem?_concat_length] at hi; injection hi with hi; exact hi.symm
  subst ex
  rw [cutAt_last (by simp), List.dropLast_concat]
  obtain ⟨hdr, -, hdx⟩ := List.nodup_append.1 hd
  have hyr : id ∉ r := fun e => hdx id e id (by simp) rfl
  refine ⟨h1.del _, ?_, fun z => ?_, fun j z hz w => ?_⟩
  · have := Maps.size_del (k := ky id) h1
    rw [h3, h2, hl] at this
    have hc : (r ++ [id]).contains id = true := by simp
    rw [hc, if_pos rfl] at this
    omega
  · by_cases e : z = id
    · subst e
      rw [Maps.has_del_same]
      simpa using hyr
    · rw [Maps.has_del_other (ky_ne e), h3]
      have : ¬ id = z := fun h => e h.symm
      simp [e]
  · have e : z ≠ id := fun e => hyr (e ▸ List.mem_of_getElem? hz)
    rw [Maps.atKey_del_other (ky_ne e)]
    exact h4 j z (by rw [List.getElem?_append_left (List.getElem?_eq_some_iff.1 hz).1]; exact hz) w
end
end Go.Proofs.Ytaamlidflfdjkaa.tab
