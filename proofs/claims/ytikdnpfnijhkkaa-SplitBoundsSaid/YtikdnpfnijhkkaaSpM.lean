/-
  Program-free: fars (a place, how far), their order; who is ahead of one and who behind it; the k-th one; the first few and the others; the least and the greatest distance.
-/
import Derived.Test.YtikdnpfnijhkkaaHitM
namespace Go.Proofs.Ytikdnpfnijhkkaa.spl
open Go.RowKit hit Go.Sort

def lesser (x : Hit) (l : List Hit) : List Hit := l.filter fun y => lt y x
def greater (x : Hit) (l : List Hit) : List Hit := l.filter fun y => lt x y
def mid (x : Hit) (l : List Hit) : List Hit := l.filter fun y => !lt y x && !lt x y
theorem lt_asymm {x y : Hit} (h : lt x y = true) : lt y x = false := by
  rw [lt_iff] at h
  rw [nlt_iff]
  omega
theorem mid_all {x y : Hit} {l : List Hit} (h : y ∈ mid x l) : y = x := by
  have := (List.mem_filter.1 h).2
  simp only [Bool.and_eq_true, Bool.not_eq_true'] at this
  exact anti this.1 this.2
theorem parts_perm (x : Hit) : ∀ l : List Hit, (lesser x l ++ (mid x l ++ greater x l)).Perm l
  | [] => List.Perm.refl _
  | y :: t => by
    have ih := parts_perm x t
    by_cases h1 : lt y x = true
    · have h2 := lt_asymm h1
      have e : lesser x (y :: t) ++ (mid x (y :: t) ++ greater x (y :: t)) = y :: (lesser x t ++ (mid x t ++ greater x t)) := by simp [lesser, mid, greater, h1, h2]
      rw [e]
      exact ih.cons y
    · have h1' : lt y x = false := by simpa using h1
      by_cases h2 : lt x y = true
      · have e : lesser x (y :: t) ++ (mid x (y :: t) ++ greater x (y :: t)) = (lesser x t ++ mid x t) ++ y :: greater x t := by simp [lesser, mid, greater, h1', h2]
        rw [e]
        refine List.perm_middle.trans ?_
        rw [List.append_assoc]
        exact ih.cons y
      · have h2' : lt x y = false := by simpa using h2
        have e : lesser x (y :: t) ++ (mid x (y :: t) ++ greater x (y :: t)) = lesser x t ++ y :: (mid x t ++ greater x t) := by simp [lesser, mid, greater, h1', h2']
        rw [e]
        exact List.perm_middle.trans (ih.cons y)
theorem parts_sorted (x : Hit) (l : List Hit) : sortH l = sortH (lesser x l) ++ (mid x l ++ sortH (greater x l)) := by
  refine (sortH_is ?_ ?_).symm
  · exact ((sortH_perm _).append ((List.Perm.refl _).append (sortH_perm _))).trans (parts_perm x l)
  · have ha : ∀ y ∈ sortH (lesser x l), lt y x = true := fun y hy => (List.mem_filter.1 ((sortH_perm _).subset hy)).2
    have hb : ∀ y ∈ sortH (greater x l), lt x y = true := fun y hy => (List.mem_filter.1 ((sortH_perm _).subset hy)).2
    refine List.pairwise_append.2 ⟨sortH_rises _, List.pairwise_append.2 ⟨?_, sortH_rises _, ?_⟩, ?_⟩
    · refine List.pairwise_of_forall_mem_list ?_
      intro a h1 b h2
      rw [mid_all h1, mid_all h2]
      exact swo.irrefl x
    · intro a h1 b h2
      rw [mid_all h1]
      exact lt_asymm (hb b h2)
    · intro a h1 b h2
      rcases List.mem_append.1 h2 with h2 | h2
      · rw [mid_all h2]
        exact lt_asymm (ha a h1)
      · exact lt_asymm (swo.trans _ _ _ (ha a h1) (hb b h2))
theorem parts_length (x : Hit) (l : List Hit) : (lesser x l).length + ((mid x l).length + (greater x l).length) = l.length := by
  have := (parts_perm x l).length_eq
  simpa using this
/-- the one of which k stand ahead, in order -/
def kth (l : List Hit) (k : Nat) : Option Hit := (sortH l)[k]?
theorem kth_lesser {x : Hit} {l : List Hit} {k : Nat} (h : k < (lesser x l).length) : kth l k = kth (lesser x l) k := by
  unfold kth
  rw [parts_sorted x l, List.getElem?_append_left (by rw [sortH_length]; exact h)]
theorem kth_greater {x : Hit} {l : List Hit} {k : Nat} (h : l.length - (greater x l).length ≤ k) : kth l k = kth (greater x l) (k - (l.length - (greater x l).length)) := by
  have hl := parts_length x l
  unfold kth
  rw [parts_sorted x l, List.getElem?_append_right (by rw [sortH_length]; omega), List.getElem?_append_right (by rw [sortH_length]; omega), sortH_length]
  congr 1
  omega
theorem kth_here {x : Hit} {l : List Hit} {k : Nat} (h1 : (lesser x l).length ≤ k) (h2 : k < l.length - (greater x l).length) : kth l k = some x := by
  have hl := parts_length x l
  unfold kth
  rw [parts_sorted x l, List.getElem?_append_right (by rw [sortH_length]; omega), sortH_length, List.getElem?_append_left (by omega)]
  have hk : k - (lesser x l).length < (mid x l).length := by omega
  rw [List.getElem?_eq_getElem hk]
  exact congrArg some (mid_all (List.getElem_mem hk))
theorem lesser_lt {x : Hit} {l : List Hit} (h : x ∈ l) : (lesser x l).length < l.length := by
  unfold lesser
  rw [List.length_filter_lt_length_iff_exists]
  exact ⟨x, h, by simp [swo.irrefl x]⟩
theorem greater_lt {x : Hit} {l : List Hit} (h : x ∈ l) : (greater x l).length < l.length := by
  unfold greater
  rw [List.length_filter_lt_length_iff_exists]
  exact ⟨x, h, by simp [swo.irrefl x]⟩
theorem kth_mem {l : List Hit} {k : Nat} {x : Hit} (h : kth l k = some x) : x ∈ l := (sortH_perm l).subset (List.mem_of_getElem? h)
theorem kth_some {l : List Hit} {k : Nat} (h : k < l.length) : ∃ x, kth l k = some x := ⟨_, List.getElem?_eq_getElem (by rw [sortH_length]; exact h)⟩
theorem kth_none {l : List Hit} {k : Nat} (h : l.length ≤ k) : kth l k = none := List.getElem?_eq_none (by rw [sortH_length]; exact h)
/-- .. for any int -/
def nth (l : List Hit) (k : Int) : Option Hit := if 0 ≤ k then kth l k.toNat else none
theorem nth_in {l : List Hit} {k : Nat} : nth l (k : Int) = kth l k := by
  unfold nth
  rw [if_pos (by omega)]
  rfl
theorem nth_out {l : List Hit} {k : Int} (h : k < 0 ∨ (l.length : Int) ≤ k) : nth l k = none := by
  unfold nth
  split
  · exact kth_none (by omega)
  · rfl
/-- a far and true, or none -/
def opt : Option Hit → Hit × Bool
  | some x => (x, true)
  | none => ((0, 0), false)
/-! ### ranks -/
def rank (l : List Hit) (x : Hit) : Nat := (lesser x l).length
theorem rank_perm {l m : List Hit} (h : l.Perm m) (x : Hit) : rank l x = rank m x := (h.filter _).length_eq
/-- the first j of a row -/
theorem rank_step {l : List Hit} {x : Hit} {k : Nat} (hk : k < l.length) : rank (l.take (k + 1)) x = rank (l.take k) x + (if lt l[k] x = true then 1 else 0) := by
  unfold rank lesser
  rw [List.take_succ_eq_append_getElem hk, List.filter_append, List.length_append]
  congr 1
  by_cases h : lt l[k] x = true <;> simp [h]
theorem rank_le (l : List Hit) (x : Hit) : rank l x ≤ l.length := List.length_filter_le ..
/-- in a row whose things are unlike each one's rank is its place in order -/
theorem strict {l : List Hit} (h : l.Nodup) : (sortH l).Pairwise fun x y => lt x y = true := by
  have h1 := sortH_rises l
  have h2 : (sortH l).Nodup := (sortH_perm l).nodup_iff.2 h
  refine (List.Pairwise.and h1 h2).imp ?_
  rintro a b ⟨h1, h2⟩
  cases h3 : lt a b
  · exact absurd (anti h3 h1) h2
  · rfl
theorem rank_at {l : List Hit} (h : l.Nodup) {j : Nat} (hj : j < (sortH l).length) : rank l (sortH l)[j] = j := by
  rw [rank_perm (sortH_perm l).symm]
  have hs := List.pairwise_iff_getElem.1 (strict h)
  generalize sortH l = s at hj hs
  unfold rank lesser
  have e : s = s.take j ++ s.drop j := (List.take_append_drop j s).symm
  have h1 : (s.take j).filter (fun y => lt y s[j]) = s.take j := List.filter_eq_self.2 fun y hy => by
    obtain ⟨i, hi, rfl⟩ := List.mem_take_iff_getElem.1 hy
    exact hs i j (by omega) hj (by omega)
  have h2 : (s.drop j).filter (fun y => lt y s[j]) = [] := List.filter_eq_nil_iff.2 fun y hy => by
    obtain ⟨i, hi, rfl⟩ := List.mem_drop_iff_getElem.1 hy
    rcases Nat.eq_zero_or_pos i with h0 | h0
    · subst h0
      simp [swo.irrefl]
    · have := lt_asymm (hs j (j + i) hj (by omega) (by omega))
      simp [this]
  have h3 : s.filter (fun y => lt y s[j]) = (s.take j).filter (fun y => lt y s[j]) ++ (s.drop j).filter (fun y => lt y s[j]) := by
    rw [← List.filter_append, List.take_append_drop]
  rw [h3, h1, h2]
  simp
  omega
theorem place {l : List Hit} {x : Hit} (hx : x ∈ l) : ∃ j, ∃ h : j < (sortH l).length, (sortH l)[j] = x := List.getElem_of_mem ((sortH_perm l).symm.subset hx)
/-- has x just k ahead of it? -/
def isR (l : List Hit) (k : Int) (x : Hit) : Bool := (rank l x : Int) == k
theorem find_rank {l : List Hit} (h : l.Nodup) (k : Int) : l.find? (isR l k) = nth l k := by
  cases hf : l.find? (isR l k) with
  | none =>
    rw [List.find?_eq_none] at hf
    unfold nth
    split
    · rcases Nat.lt_or_ge k.toNat l.length with h1 | h1
      · exfalso
        have hj : k.toNat < (sortH l).length := by rw [sortH_length]; exact h1
        refine hf (sortH l)[k.toNat] ((sortH_perm l).subset (List.getElem_mem hj)) ?_
        unfold isR
        rw [rank_at h hj]
        simp
        omega
      · exact (kth_none h1).symm
    · rfl
  | some x =>
    have h1 := List.find?_some hf
    obtain ⟨j, hj, rfl⟩ := place (List.mem_of_find?_eq_some hf)
    unfold isR at h1
    rw [rank_at h hj] at h1
    have e : k = (j : Int) := (eq_of_beq h1).symm
    subst e
    rw [nth_in]
    unfold kth
    rw [List.getElem?_eq_getElem hj]
/-! ### the first few, and the others -/
/-- .. by ranks -/
def fewer (l : List Hit) (k : Int) (x : Hit) : Bool := decide ((rank l x : Int) < k)
/-- .. by the last one of the first -/
def cut (l : List Hit) (k : Int) : List Hit × List Hit := match nth l (min (max k 0) l.length - 1) with
  | none => ([], l)
  | some b => (l.filter fun x => !lt b x, l.filter fun x => lt b x)
theorem cut_is {l : List Hit} (h : l.Nodup) (k : Int) : cut l k = (l.filter (fewer l k), l.filter fun x => !fewer l k x) := by
  unfold cut
  cases hn : nth l (min (max k 0) l.length - 1) with
  | none =>
    have h0 : k ≤ 0 ∨ l = [] := by
      rcases Int.lt_or_le 0 k with h1 | h1
      · right
        rcases Nat.eq_zero_or_pos l.length with h2 | h2
        · exact List.eq_nil_of_length_eq_zero h2
        · exfalso
          obtain ⟨x, hx⟩ := kth_some (l := l) (k := (min (max k 0) l.length - 1).toNat) (by omega)
          unfold nth at hn
          rw [if_pos (by omega), hx] at hn
          cases hn
      · left; exact h1
    rcases h0 with h0 | h0
    · have e1 : l.filter (fewer l k) = [] := List.filter_eq_nil_iff.2 fun x _ => by unfold fewer; simp; omega
      have e2 : (l.filter fun x => !fewer l k x) = l := List.filter_eq_self.2 fun x _ => by unfold fewer; simp; omega
      rw [e1, e2]
    · subst h0; rfl
  | some b =>
    unfold nth at hn
    split at hn
    · rename_i h0
      unfold kth at hn
      obtain ⟨hj, rfl⟩ := List.getElem?_eq_some_iff.1 hn
      have hj2 := hj
      rw [sortH_length] at hj2
      have key : ∀ x ∈ l, fewer l k x = !lt (sortH l)[(min (max k 0) (l.length : Int) - 1).toNat] x := fun x hx => by
        obtain ⟨i, hi, rfl⟩ := place hx
        have hi2 := hi
        rw [sortH_length] at hi2
        have hs := List.pairwise_iff_getElem.1 (strict h)
        unfold fewer
        rw [rank_at h hi]
        rcases Nat.lt_or_ge (min (max k 0) (l.length : Int) - 1).toNat i with h1 | h1
        · rw [hs _ _ hj hi h1]
          simp
          omega
        · have : lt (sortH l)[(min (max k 0) (l.length : Int) - 1).toNat] (sortH l)[i] = false := by
            rcases Nat.lt_or_ge i (min (max k 0) (l.length : Int) - 1).toNat with h2 | h2
            · exact lt_asymm (hs _ _ hi hj h2)
            · have e : i = (min (max k 0) (l.length : Int) - 1).toNat := by omega
              subst e
              exact swo.irrefl _
          rw [this]
          simp
          omega
      refine Prod.ext ?_ ?_
      · exact List.filter_congr fun x hx => by rw [key x hx]
      · exact List.filter_congr fun x hx => by rw [key x hx]; simp
    · cases hn
/-! ### the least and the greatest distance -/
def lo (d : Int) (l : List Hit) : Int := l.foldl (fun a x => min a x.2) d
def hi (d : Int) (l : List Hit) : Int := l.foldl (fun a x => max a x.2) d
/-- of any row -/
def bnd : List Hit → Int × Int
  | [] => (1, 0)
  | x :: t => (lo x.2 (x :: t), hi x.2 (x :: t))
theorem lo_step {d : Int} {l : List Hit} {k : Nat} (hk : k < l.length) : lo d (l.take (k + 1)) = min (lo d (l.take k)) l[k].2 := by
  unfold lo
  rw [List.take_succ_eq_append_getElem hk, List.foldl_append]
  rfl
theorem hi_step {d : Int} {l : List Hit} {k : Nat} (hk : k < l.length) : hi d (l.take (k + 1)) = max (hi d (l.take k)) l[k].2 := by
  unfold hi
  rw [List.take_succ_eq_append_getElem hk, List.foldl_append]
  rfl
theorem lo_le : ∀ (l : List Hit) (d : Int), lo d l ≤ d ∧ ∀ x ∈ l, lo d l ≤ x.2
  | [], d => ⟨Int.le_refl _, fun x h => by cases h⟩
  | y :: t, d => by
    obtain ⟨h1, h2⟩ := lo_le t (min d y.2)
    show lo (min d y.2) t ≤ d ∧ _
    refine ⟨by omega, fun x hx => ?_⟩
    show lo (min d y.2) t ≤ x.2
    rcases List.mem_cons.1 hx with rfl | hx
    · omega
    · exact h2 x hx
theorem hi_ge : ∀ (l : List Hit) (d : Int), d ≤ hi d l ∧ ∀ x ∈ l, x.2 ≤ hi d l
  | [], d => ⟨Int.le_refl _, fun x h => by cases h⟩
  | y :: t, d => by
    obtain ⟨h1, h2⟩ := hi_ge t (max d y.2)
    show d ≤ hi (max d y.2) t ∧ _
    refine ⟨by omega, fun x hx => ?_⟩
    show x.2 ≤ hi (max d y.2) t
    rcases List.mem_cons.1 hx with rfl | hx
    · omega
    · exact h2 x hx
theorem lo_mem : ∀ (l : List Hit) (d : Int), lo d l = d ∨ ∃ x ∈ l, lo d l = x.2
  | [], d => .inl rfl
  | y :: t, d => by
    have : lo d (y :: t) = lo (min d y.2) t := rfl
    rw [this]
    rcases lo_mem t (min d y.2) with h | ⟨x, hx, h⟩
    · rw [h]
      rcases Int.le_total d y.2 with h1 | h1
      · left; omega
      · right; exact ⟨y, List.mem_cons_self .., by omega⟩
    · right; exact ⟨x, List.mem_cons_of_mem _ hx, h⟩
theorem hi_mem : ∀ (l : List Hit) (d : Int), hi d l = d ∨ ∃ x ∈ l, hi d l = x.2
  | [], d => .inl rfl
  | y :: t, d => by
    have : hi d (y :: t) = hi (max d y.2) t := rfl
    rw [this]
    rcases hi_mem t (max d y.2) with h | ⟨x, hx, h⟩
    · rw [h]
      rcases Int.le_total d y.2 with h1 | h1
      · right; exact ⟨y, List.mem_cons_self .., by omega⟩
      · left; omega
    · right; exact ⟨x, List.mem_cons_of_mem _ hx, h⟩
theorem bnd_lo {l : List Hit} (h : 0 < l.length) : ∃ x ∈ l, (bnd l).1 = x.2 := by
  match l, h with
  | y :: t, _ =>
    rcases lo_mem (y :: t) y.2 with h1 | h1
    · exact ⟨y, List.mem_cons_self .., h1⟩
    · exact h1
theorem bnd_hi {l : List Hit} (h : 0 < l.length) : ∃ x ∈ l, (bnd l).2 = x.2 := by
  match l, h with
  | y :: t, _ =>
    rcases hi_mem (y :: t) y.2 with h1 | h1
    · exact ⟨y, List.mem_cons_self .., h1⟩
    · exact h1
/-- none of the first part is farther than one of the second -/
theorem cut_apart (l : List Hit) (k : Int) (h1 : 0 < (cut l k).1.length) (h2 : 0 < (cut l k).2.length) : (bnd (cut l k).1).2 ≤ (bnd (cut l k).2).1 := by
  obtain ⟨x, hx, e1⟩ := bnd_hi h1
  obtain ⟨y, hy, e2⟩ := bnd_lo h2
  rw [e1, e2]
  unfold cut at hx hy h1
  cases hn : nth l (min (max k 0) l.length - 1) with
  | none => rw [hn] at hx; cases hx
  | some b =>
    rw [hn] at hx hy
    have p := (List.mem_filter.1 hx).2
    have q := (List.mem_filter.1 hy).2
    simp only [Bool.not_eq_true'] at p
    rw [nlt_iff] at p
    rw [lt_iff] at q
    omega
/-! ### unlike places -/
def unlike (l : List Hit) : Bool := decide ((l.map (·.1)).Nodup)
theorem unlike_nodup {l : List Hit} (h : unlike l = true) : l.Nodup := by
  have h1 := of_decide_eq_true h
  exact (List.pairwise_map.1 h1).imp fun h2 e => h2 (by rw [e])
/-- the first i have none alike, nor the i-th one of the first k -/
def Un (l : List Hit) (i k : Nat) : Prop := ∀ a b (ha : a < l.length) (hb : b < a), a < i ∨ (a = i ∧ b < k) → l[a].1 ≠ (l[b]'(by omega)).1
theorem Un.start (l : List Hit) : Un l 0 0 := fun a b ha hb h => by omega
theorem Un.on {l : List Hit} {i k : Nat} (h : Un l i k) (hi : i < l.length) (hk : k < i) (hne : l[i].1 ≠ (l[k]'(by omega)).1) : Un l i (k + 1) := fun a b ha hb hc => by
  by_cases hh : a < i ∨ (a = i ∧ b < k)
  · exact h a b ha hb hh
  · have h1 : a = i := by omega
    have h2 : b = k := by omega
    subst h1 h2
    exact hne
theorem Un.next {l : List Hit} {i : Nat} (h : Un l i i) : Un l (i + 1) 0 := fun a b ha hb hc => h a b ha hb (by omega)
theorem Un.all {l : List Hit} (h : Un l l.length 0) : unlike l = true := by
  refine decide_eq_true ?_
  unfold List.Nodup
  rw [List.pairwise_map, List.pairwise_iff_getElem]
  intro i j hi hj hij e
  exact h j i hj hij (.inl hj) e.symm
theorem like {l : List Hit} {i k : Nat} (hi : i < l.length) (hk : k < i) (he : l[i].1 = (l[k]'(by omega)).1) : unlike l = false := by
  refine decide_eq_false fun h => ?_
  unfold List.Nodup at h
  rw [List.pairwise_map, List.pairwise_iff_getElem] at h
  exact h k i (by omega) hi hk he.symm
end Go.Proofs.Ytikdnpfnijhkkaa.spl
