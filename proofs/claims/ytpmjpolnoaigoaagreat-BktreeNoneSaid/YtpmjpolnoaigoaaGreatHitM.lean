/-
  Program-free: hits (a number, how far), their order, a row by insertion, two rising rows in one.
-/
import Derived.Test.YtpmjpolnoaigoaaGreatGLib
import Derived.Sort.AssemblyPlain
namespace Go.Proofs.YtpmjpolnoaigoaaGreat.hit
open Go.RowKit Go.Sort

/-- a hit: its number, how far it is -/
abbrev Hit := Int × Int
/-- which is ahead -/
def lt (x y : Hit) : Bool := decide (x.2 < y.2) || (decide (x.2 = y.2) && decide (x.1 < y.1))
theorem lt_iff (x y : Hit) : lt x y = true ↔ x.2 < y.2 ∨ (x.2 = y.2 ∧ x.1 < y.1) := by simp [lt]
theorem nlt_iff (x y : Hit) : lt x y = false ↔ y.2 < x.2 ∨ (x.2 = y.2 ∧ y.1 ≤ x.1) := by
  rw [← Bool.not_eq_true, lt_iff]; omega
/-- what Cmp tells -/
def cf (x y : Hit) : Int := if lt x y = true then -1 else if lt y x = true then 1 else 0
theorem cf_lt (x y : Hit) : decide (cf x y < 0) = lt x y := by
  unfold cf
  by_cases h : lt x y = true
  · simp [h]
  · simp only [h]
    by_cases h2 : lt y x = true <;> simp [h2]
theorem swo : SWO lt where
  irrefl x := by rw [nlt_iff]; omega
  trans x y z h1 h2 := by rw [lt_iff] at *; omega
  ntrans x y z h1 h2 := by rw [nlt_iff] at *; omega
theorem anti {x y : Hit} (h1 : lt x y = false) (h2 : lt y x = false) : x = y := by
  rw [nlt_iff] at h1 h2
  exact Prod.ext (by omega) (by omega)
/-- none is ahead of one ahead of it -/
def Rises (l : List Hit) : Prop := l.Pairwise fun x y => lt y x = false
theorem rise_eq : ∀ a b : List Hit, a.Perm b → Rises a → Rises b → a = b
  | [], b, h, _, _ => (List.nil_perm.1 h).symm
  | x :: t, [], h, _, _ => by have := h.length_eq; simp at this
  | x :: t, y :: s, h, ha, hb => by
    obtain ⟨a1, a2⟩ := List.pairwise_cons.1 ha
    obtain ⟨b1, b2⟩ := List.pairwise_cons.1 hb
    have h1 : lt x y = false := by
      rcases List.mem_cons.1 (h.subset (List.mem_cons_self ..)) with e | e
      · rw [e]; exact swo.irrefl y
      · exact b1 x e
    have h2 : lt y x = false := by
      rcases List.mem_cons.1 (h.symm.subset (List.mem_cons_self ..)) with e | e
      · rw [e]; exact swo.irrefl x
      · exact a1 y e
    obtain rfl : x = y := anti h1 h2
    rw [rise_eq t s (List.Perm.cons_inv h) a2 b2]
/-! ### by insertion -/
def put (n : Hit) : List Hit → List Hit
  | [] => [n]
  | x :: t => if lt n x = true then n :: x :: t else x :: put n t
theorem put_perm (n : Hit) : ∀ xs, (put n xs).Perm (n :: xs)
  | [] => List.Perm.refl _
  | x :: t => by
    unfold put
    split
    · exact List.Perm.refl _
    · exact ((put_perm n t).cons x).trans (List.Perm.swap n x t)
theorem put_length (n : Hit) (xs : List Hit) : (put n xs).length = xs.length + 1 := (put_perm n xs).length_eq
theorem put_rises (n : Hit) : ∀ xs : List Hit, Rises xs → Rises (put n xs)
  | [], _ => by simp [put, Rises]
  | x :: t, h => by
    obtain ⟨h1, h2⟩ := List.pairwise_cons.1 h
    unfold put
    split
    · rename_i hlt
      refine List.pairwise_cons.2 ⟨fun y hy => ?_, h⟩
      have hx : lt x n = false := by rw [lt_iff] at hlt; rw [nlt_iff]; omega
      rcases List.mem_cons.1 hy with rfl | hy
      · exact hx
      · exact swo.ntrans _ _ _ (h1 y hy) hx
    · rename_i hlt
      refine List.pairwise_cons.2 ⟨fun y hy => ?_, put_rises n t h2⟩
      rcases List.mem_cons.1 ((put_perm n t).subset hy) with rfl | hy
      · simpa using hlt
      · exact h1 y hy
/-- where the insertion stands behind k hits -/
def Put (n : Hit) (xs : List Hit) (k : Nat) (dn : Bool) (out : List Hit) : Prop := if dn = true then out ++ xs.drop k = put n xs else out ++ put n (xs.drop k) = put n xs
section
variable {n : Hit} {xs out : List Hit} {k : Nat}
theorem Put.size {dn : Bool} (h : Put n xs k dn out) (hk : k ≤ xs.length) : out.length ≤ k + 1 := by
  unfold Put at h
  cases dn with
  | true =>
    have := congrArg List.length h
    simp only [List.length_append, put_length, List.length_drop] at this
    omega
  | false =>
    have := congrArg List.length h
    simp only [List.length_append, put_length, List.length_drop] at this
    omega
theorem Put.size0 (h : Put n xs k false out) (hk : k ≤ xs.length) : out.length ≤ k := by
  unfold Put at h
  have := congrArg List.length h
  simp only [List.length_append, put_length, List.length_drop] at this
  omega
theorem Put.start : Put n xs 0 false [] := rfl
theorem Put.pass (h : Put n xs k true out) (hk : k < xs.length) : Put n xs (k + 1) true (out ++ [xs[k]]) := by
  unfold Put at *
  rw [if_pos rfl] at h ⊢
  rw [← h, List.drop_eq_getElem_cons hk]; simp
theorem Put.here (h : Put n xs k false out) (hk : k < xs.length) (hl : lt n xs[k] = true) : Put n xs (k + 1) true (out ++ [n] ++ [xs[k]]) := by
  unfold Put at *
  rw [if_neg (by simp)] at h
  rw [if_pos rfl, ← h, List.drop_eq_getElem_cons hk]
  simp [put, hl]
theorem Put.on (h : Put n xs k false out) (hk : k < xs.length) (hl : lt n xs[k] = false) : Put n xs (k + 1) false (out ++ [xs[k]]) := by
  unfold Put at *
  rw [if_neg (by simp)] at h ⊢
  rw [← h, List.drop_eq_getElem_cons hk]
  simp [put, hl]
theorem Put.done (h : Put n xs k true out) (hk : ¬ k < xs.length) : out = put n xs := by
  unfold Put at h
  rw [if_pos rfl, List.drop_of_length_le (by omega)] at h
  simpa using h
theorem Put.last (h : Put n xs k false out) (hk : ¬ k < xs.length) : out ++ [n] = put n xs := by
  unfold Put at h
  rw [if_neg (by simp), List.drop_of_length_le (by omega)] at h
  exact h
end
/-- one by one -/
def sortH (l : List Hit) : List Hit := l.foldl (fun a x => put x a) []
theorem fold_perm : ∀ (l a : List Hit), (l.foldl (fun a x => put x a) a).Perm (a ++ l)
  | [], a => by simp
  | x :: t, a => by
    rw [List.foldl_cons]
    refine (fold_perm t (put x a)).trans (((put_perm x a).append_right t).trans ?_)
    simp only [List.cons_append]
    exact List.perm_middle.symm
theorem fold_rises : ∀ (l a : List Hit), Rises a → Rises (l.foldl (fun a x => put x a) a)
  | [], a, h => h
  | x :: t, a, h => by rw [List.foldl_cons]; exact fold_rises t _ (put_rises x a h)
theorem sortH_perm (l : List Hit) : (sortH l).Perm l := by
  have h := fold_perm l []
  rwa [List.nil_append] at h
theorem sortH_length (l : List Hit) : (sortH l).length = l.length := (sortH_perm l).length_eq
theorem sortH_rises (l : List Hit) : Rises (sortH l) := fold_rises l [] List.Pairwise.nil
theorem sortH_take (l : List Hit) (k : Nat) (hk : k < l.length) : sortH (l.take (k + 1)) = put l[k] (sortH (l.take k)) := by
  unfold sortH
  rw [List.take_succ_eq_append_getElem hk, List.foldl_append]
  rfl
theorem sortH_is {l s : List Hit} (hp : s.Perm l) (hr : Rises s) : s = sortH l := rise_eq _ _ (hp.trans (sortH_perm l).symm) hr (sortH_rises l)
theorem sortH_of_perm {l m : List Hit} (h : l.Perm m) : sortH l = sortH m := sortH_is ((sortH_perm l).trans h) (sortH_rises l)
theorem sortH_sorts (a b : List Hit) : sortH (sortH a ++ sortH b) = sortH (a ++ b) := sortH_of_perm ((sortH_perm a).append (sortH_perm b))
theorem sorted_is {l : List Hit} {R : Array Hit} (hp : PermIn 0 l.toArray.size l.toArray R) (hs : SortedIn lt 0 l.toArray.size R) : R.toList = sortH l := by
  refine sortH_is ?_ ?_
  · have h := hp.2.2
    have e1 : R.extract 0 l.toArray.size = R := by rw [← hp.1]; simp
    have e2 : l.toArray.extract 0 l.toArray.size = l.toArray := by simp
    rw [e1, e2] at h
    exact h
  · unfold Rises
    rw [List.pairwise_iff_getElem]
    intro i j hi hj hij
    have hi2 : i < R.size := by simpa using hi
    have hj2 : j < R.size := by simpa using hj
    have h := hs i j (Nat.zero_le _) hij (by rw [← hp.1]; exact hj2)
    rw [getElem!_pos R i hi2, getElem!_pos R j hj2] at h
    simpa using h
/-! ### neighbours tell whether a row rises -/
/-- from place k on no one is ahead of the one ahead of it -/
def From (l : List Hit) (k : Nat) : Prop := ∀ i (h : i + 1 < l.length), k ≤ i + 1 → lt l[i + 1] l[i] = false
theorem From.end_ (l : List Hit) : From l l.length := fun i h hk => by omega
theorem From.step {l : List Hit} {k : Nat} (h : From l (k + 1)) (hk : k < l.length) (h0 : 0 < k) (hl : lt l[k] (l[k - 1]'(by omega)) = false) : From l k := fun i hi hk2 => by
  rcases Nat.lt_or_ge k (i + 1) with h1 | h1
  · exact h i hi h1
  · obtain rfl : k = i + 1 := by omega
    simpa using hl
theorem From.rises {l : List Hit} {k : Nat} (h : From l k) (hk : k ≤ 1) : Rises l := by
  have hadj : ∀ i (h : i + 1 < l.length), lt l[i + 1] l[i] = false := fun i hi => h i hi (by omega)
  unfold Rises
  rw [List.pairwise_iff_getElem]
  have : ∀ n i (hi : i < l.length) (hj : i + 1 + n < l.length), lt l[i + 1 + n] l[i] = false := by
    intro n
    induction n with
    | zero => intro i hi hj; exact hadj i hj
    | succ n ih =>
      intro i hi hj
      have h1 := ih i hi (by omega)
      have h2 := hadj (i + 1 + n) (by omega)
      exact swo.ntrans _ _ _ h2 h1
  intro i j hi hj hij
  obtain ⟨n, rfl⟩ : ∃ n, j = i + 1 + n := ⟨j - (i + 1), by omega⟩
  exact this n i hi hj
theorem not_rises {l : List Hit} {k : Nat} (hk : k + 1 < l.length) (h : lt l[k + 1] l[k] = true) : ¬ Rises l := fun hr => by
  have := (List.pairwise_iff_getElem.1 hr) k (k + 1) (by omega) hk (by omega)
  rw [h] at this
  cases this
/-! ### two rising rows in one -/
def mrg : List Hit → List Hit → List Hit
  | [], b => b
  | x :: s, [] => x :: s
  | x :: s, y :: t => if lt y x = true then y :: mrg (x :: s) t else x :: mrg s (y :: t)
termination_by a b => a.length + b.length
theorem mrg_nil (a : List Hit) : mrg a [] = a := by cases a <;> simp [mrg]
theorem mrg_perm : ∀ a b : List Hit, (mrg a b).Perm (a ++ b)
  | [], b => by simp [mrg]
  | x :: s, [] => by simp [mrg]
  | x :: s, y :: t => by
    rw [mrg]
    split
    · exact ((mrg_perm (x :: s) t).cons y).trans List.perm_middle.symm
    · exact (mrg_perm s (y :: t)).cons x
termination_by a b => a.length + b.length
theorem mrg_rises : ∀ a b : List Hit, Rises a → Rises b → Rises (mrg a b)
  | [], b, _, hb => by simpa [mrg] using hb
  | x :: s, [], ha, _ => by simpa [mrg] using ha
  | x :: s, y :: t, ha, hb => by
    obtain ⟨a1, a2⟩ := List.pairwise_cons.1 ha
    obtain ⟨b1, b2⟩ := List.pairwise_cons.1 hb
    rw [mrg]
    split
    · rename_i hlt
      have hxy : lt x y = false := by rw [lt_iff] at hlt; rw [nlt_iff]; omega
      refine List.pairwise_cons.2 ⟨fun z hz => ?_, mrg_rises (x :: s) t ha b2⟩
      rcases List.mem_append.1 ((mrg_perm _ _).subset hz) with h | h
      · rcases List.mem_cons.1 h with rfl | h
        · exact hxy
        · exact swo.ntrans _ _ _ (a1 z h) hxy
      · exact b1 z h
    · rename_i hlt
      have hyx : lt y x = false := by simpa using hlt
      refine List.pairwise_cons.2 ⟨fun z hz => ?_, mrg_rises s (y :: t) a2 hb⟩
      rcases List.mem_append.1 ((mrg_perm _ _).subset hz) with h | h
      · exact a1 z h
      · rcases List.mem_cons.1 h with rfl | h
        · exact hyx
        · exact swo.ntrans _ _ _ (b1 z h) hyx
termination_by a b => a.length + b.length
theorem mrg_is {a b : List Hit} (ha : Rises a) (hb : Rises b) : mrg a b = sortH (a ++ b) := sortH_is (mrg_perm a b) (mrg_rises a b ha hb)
/-! ### cells -/
/-- a hit's two cells -/
def hc (x : Hit) : List Value := [.int .u64 x.1, .int .i64 x.2]
def hv (l : List Hit) : List Value := l.flatMap hc
theorem hc_len (x : Hit) : (hc x).length = 2 := rfl
theorem hv_length (l : List Hit) : (hv l).length = l.length * 2 := by
  unfold hv
  induction l with
  | nil => rfl
  | cons x t ih => rw [List.flatMap_cons, List.length_append, hc_len, ih, List.length_cons]; omega
theorem hv_append (a b : List Hit) : hv (a ++ b) = hv a ++ hv b := by simp [hv]
theorem hv_one : ∀ l : List Hit, ∀ u ∈ hv l, u.oneCell' = true := by
  intro l u hu
  simp only [hv, hc, List.mem_flatMap] at hu
  obtain ⟨x, _, h⟩ := hu
  simp at h
  rcases h with rfl | rfl <;> rfl
theorem hc_one (x : Hit) : ∀ u ∈ hc x, u.oneCell' = true := by
  intro u hu
  simp [hc] at hu
  rcases hu with rfl | rfl <;> rfl
end Go.Proofs.YtpmjpolnoaigoaaGreat.hit
