/-
  Program-free: trees of numbers with slots, each node in a block: what stands in them from left to right; what a number's search, its rank, a place, a number more or less come to, node by node; rows that hold the same in any order.
-/
import Derived.Test.YtaickhhbdbbmjaaLaw
namespace Go.Proofs.Ytaickhhbdbbmjaa.direct
set_option linter.unusedVariables false

inductive T where
  | nil
  | node (b : Nat) (l : T) (k s : Int) (r : T)
/-- how many -/
def T.n : T → Nat
  | .nil => 0
  | .node _ l _ _ r => l.n + r.n + 1
/-- from left to right -/
def T.flat : T → List (Int × Int)
  | .nil => []
  | .node _ l k s r => l.flat ++ (k, s) :: r.flat
/-- in which blocks -/
def T.bs : T → List Nat
  | .nil => []
  | .node b l _ _ r => b :: (l.bs ++ r.bs)
theorem T.flat_length (t : T) : t.flat.length = t.n := by
  induction t with
  | nil => rfl
  | node b l k s r h1 h2 => simp only [T.flat, T.n, List.length_append, List.length_cons, h1, h2]; omega
theorem T.bs_length (t : T) : t.bs.length = t.n := by
  induction t with
  | nil => rfl
  | node b l k s r h1 h2 => simp only [T.bs, T.n, List.length_append, List.length_cons, h1, h2]

/-! ### rising rows -/
def Rise (F : List (Int × Int)) : Prop := F.Pairwise fun a b => a.1 < b.1
def fd (F : List (Int × Int)) (id : Int) : Option Int := (F.find? fun x => x.1 == id).map (·.2)
def rk (F : List (Int × Int)) (id : Int) : Nat := F.countP fun x => decide (x.1 < id)
def atp (F : List (Int × Int)) (i : Int) : Option Int := if 0 ≤ i then (F[i.toNat]?).map (·.1) else none
def ins (F : List (Int × Int)) (id s : Int) : List (Int × Int) := (F.filter fun x => decide (x.1 < id)) ++ (id, s) :: F.filter fun x => decide (id < x.1)
def del (F : List (Int × Int)) (id : Int) : List (Int × Int) := F.filter fun x => x.1 != id
section
variable {l r F G : List (Int × Int)} {k s id : Int}
theorem Rise.parts (h : Rise (l ++ (k, s) :: r)) : Rise l ∧ Rise r ∧ (∀ x ∈ l, x.1 < k) ∧ (∀ x ∈ r, k < x.1) := by
  obtain ⟨h1, h2, h3⟩ := List.pairwise_append.1 h
  obtain ⟨h4, h5⟩ := List.pairwise_cons.1 h2
  exact ⟨h1, h5, fun x hx => h3 x hx (k, s) (by simp), fun x hx => h4 x hx⟩
theorem fd_none_of (h : ∀ x ∈ F, x.1 ≠ id) : fd F id = none := by
  unfold fd
  rw [List.find?_eq_none.2 fun x hx => by simpa using h x hx]
  rfl
theorem fd_none (h : fd F id = none) : ∀ x ∈ F, x.1 ≠ id := by
  unfold fd at h
  have h2 : F.find? (fun x => x.1 == id) = none := by simpa using h
  intro x hx
  simpa using List.find?_eq_none.1 h2 x hx
theorem fd_mem {v : Int} (h : fd F id = some v) : (id, v) ∈ F := by
  unfold fd at h
  obtain ⟨y, hy, rfl⟩ := Option.map_eq_some_iff.1 h
  have h1 := List.mem_of_find?_eq_some hy
  have h2 := List.find?_some hy
  have h3 : y.1 = id := by simpa using h2
  rw [← h3]
  exact h1
theorem fd_append (l r : List (Int × Int)) (id : Int) : fd (l ++ r) id = (fd l id).or (fd r id) := by
  unfold fd
  rw [List.find?_append]
  cases List.find? (fun x => x.1 == id) l <;> simp
theorem fd_cons (k s : Int) (r : List (Int × Int)) (id : Int) : fd ((k, s) :: r) id = if k = id then some s else fd r id := by
  unfold fd
  rw [List.find?_cons]
  by_cases h : k = id
  · subst h; simp
  · have : ((k, s).1 == id) = false := by simpa using h
    rw [this, if_neg h]
theorem fd_low (h : Rise (l ++ (k, s) :: r)) (hi : id < k) : fd (l ++ (k, s) :: r) id = fd l id := by
  obtain ⟨-, -, -, h4⟩ := h.parts
  rw [fd_append, fd_cons, if_neg (by omega), fd_none_of (F := r) fun x hx => by have := h4 x hx; omega]
  simp
theorem fd_high (h : Rise (l ++ (k, s) :: r)) (hi : k < id) : fd (l ++ (k, s) :: r) id = fd r id := by
  obtain ⟨-, -, h3, -⟩ := h.parts
  rw [fd_append, fd_cons, if_neg (by omega), fd_none_of (F := l) fun x hx => by have := h3 x hx; omega]
  simp
theorem fd_here (h : Rise (l ++ (k, s) :: r)) : fd (l ++ (k, s) :: r) k = some s := by
  obtain ⟨-, -, h3, -⟩ := h.parts
  rw [fd_append, fd_cons, if_pos rfl, fd_none_of (F := l) fun x hx => by have := h3 x hx; omega]
  simp
theorem rk_append (l r : List (Int × Int)) (id : Int) : rk (l ++ r) id = rk l id + rk r id := List.countP_append
theorem rk_cons (x : Int × Int) (r : List (Int × Int)) (id : Int) : rk (x :: r) id = rk r id + if x.1 < id then 1 else 0 := by
  unfold rk
  rw [List.countP_cons]
  simp
theorem rk_all (h : ∀ x ∈ F, x.1 < id) : rk F id = F.length := List.countP_eq_length.2 fun x hx => by simpa using h x hx
theorem rk_zero (h : ∀ x ∈ F, id ≤ x.1) : rk F id = 0 := List.countP_eq_zero.2 fun x hx => by simpa using h x hx
theorem rk_low (h : Rise (l ++ (k, s) :: r)) (hi : id ≤ k) : rk (l ++ (k, s) :: r) id = rk l id := by
  obtain ⟨-, -, -, h4⟩ := h.parts
  rw [rk_append, rk_cons, if_neg (by omega), rk_zero (F := r) fun x hx => by have := h4 x hx; omega]
  rfl
theorem rk_high (h : Rise (l ++ (k, s) :: r)) (hi : k < id) : rk (l ++ (k, s) :: r) id = l.length + 1 + rk r id := by
  obtain ⟨-, -, h3, -⟩ := h.parts
  rw [rk_append, rk_cons, if_pos hi, rk_all (F := l) fun x hx => by have := h3 x hx; omega]
  omega
theorem rk_le (F : List (Int × Int)) (id : Int) : rk F id ≤ F.length := List.countP_le_length
theorem atp_low {i : Int} (hi : i < (l.length : Int)) : atp (l ++ (k, s) :: r) i = atp l i := by
  unfold atp
  by_cases h0 : 0 ≤ i
  · rw [if_pos h0, if_pos h0, List.getElem?_append_left (by omega)]
  · rw [if_neg h0, if_neg h0]
theorem atp_here : atp (l ++ (k, s) :: r) (l.length : Int) = some k := by
  unfold atp
  rw [if_pos (by omega), Int.toNat_natCast, List.getElem?_append_right (Nat.le_refl _), Nat.sub_self]
  rfl
theorem atp_high {i : Int} (hi : (l.length : Int) < i) : atp (l ++ (k, s) :: r) i = atp r (i - (l.length + 1)) := by
  unfold atp
  rw [if_pos (by omega), if_pos (by omega), List.getElem?_append_right (by omega)]
  have : i.toNat - l.length = (i - (l.length + 1)).toNat + 1 := by omega
  rw [this, List.getElem?_cons_succ]
theorem atp_nil (i : Int) : atp [] i = none := by unfold atp; split <;> simp
theorem atp_isSome (F : List (Int × Int)) (i : Int) : (atp F i).isSome = (decide (0 ≤ i) && decide (i < (F.length : Int))) := by
  unfold atp
  by_cases h0 : 0 ≤ i
  · rw [if_pos h0, decide_eq_true h0, Bool.true_and]
    by_cases h1 : i < (F.length : Int)
    · rw [decide_eq_true h1, List.getElem?_eq_getElem (by omega)]; rfl
    · rw [decide_eq_false h1, List.getElem?_eq_none (by omega)]; rfl
  · rw [if_neg h0, decide_eq_false h0]; rfl
theorem filter_all {p : Int × Int → Bool} (h : ∀ x ∈ F, p x = true) : F.filter p = F := List.filter_eq_self.2 h
theorem filter_no {p : Int × Int → Bool} (h : ∀ x ∈ F, p x = false) : F.filter p = [] := List.filter_eq_nil_iff.2 fun x hx => by rw [h x hx]; simp
theorem ins_nil (id s : Int) : ins [] id s = [(id, s)] := rfl
theorem ins_low {z : Int} (h : Rise (l ++ (k, s) :: r)) (hi : id < k) : ins (l ++ (k, s) :: r) id z = ins l id z ++ (k, s) :: r := by
  obtain ⟨-, -, -, h4⟩ := h.parts
  unfold ins
  have e1 : ((k, s) :: r).filter (fun x => decide (x.1 < id)) = [] := filter_no fun x hx => by
    rcases List.mem_cons.1 hx with rfl | hx
    · simp; omega
    · have := h4 x hx; simp; omega
  have e2 : ((k, s) :: r).filter (fun x => decide (id < x.1)) = (k, s) :: r := filter_all fun x hx => by
    rcases List.mem_cons.1 hx with rfl | hx
    · simp; omega
    · have := h4 x hx; simp; omega
  rw [List.filter_append, List.filter_append, e1, e2, List.append_nil, List.append_assoc]
  rfl
theorem ins_high {z : Int} (h : Rise (l ++ (k, s) :: r)) (hi : k < id) : ins (l ++ (k, s) :: r) id z = l ++ (k, s) :: ins r id z := by
  obtain ⟨-, -, h3, -⟩ := h.parts
  unfold ins
  have e1 : l.filter (fun x => decide (x.1 < id)) = l := filter_all fun x hx => by have := h3 x hx; simp; omega
  have e2 : l.filter (fun x => decide (id < x.1)) = [] := filter_no fun x hx => by have := h3 x hx; simp; omega
  rw [List.filter_append, List.filter_append, e1, e2, List.nil_append, List.filter_cons_of_pos (by simpa using hi), List.filter_cons_of_neg (by simp; omega), List.append_assoc]
  rfl
theorem del_append (l r : List (Int × Int)) (id : Int) : del (l ++ r) id = del l id ++ del r id := List.filter_append ..
theorem del_same (h : ∀ x ∈ F, x.1 ≠ id) : del F id = F := filter_all fun x hx => by simpa using h x hx
theorem del_low (h : Rise (l ++ (k, s) :: r)) (hi : id < k) : del (l ++ (k, s) :: r) id = del l id ++ (k, s) :: r := by
  obtain ⟨-, -, -, h4⟩ := h.parts
  rw [del_append, del_same (F := (k, s) :: r)]
  intro x hx
  rcases List.mem_cons.1 hx with rfl | hx
  · simp; omega
  · have := h4 x hx; omega
theorem del_high (h : Rise (l ++ (k, s) :: r)) (hi : k < id) : del (l ++ (k, s) :: r) id = l ++ (k, s) :: del r id := by
  obtain ⟨-, -, h3, -⟩ := h.parts
  rw [del_append, del_same (F := l) fun x hx => by have := h3 x hx; omega]
  congr 1
  exact List.filter_cons_of_pos (by simp; omega)
theorem del_here (h : Rise (l ++ (k, s) :: r)) : del (l ++ (k, s) :: r) k = l ++ r := by
  obtain ⟨-, -, h3, h4⟩ := h.parts
  have e : del ((k, s) :: r) k = del r k := List.filter_cons_of_neg (by simp)
  rw [del_append, del_same (F := l) fun x hx => by have := h3 x hx; omega, e, del_same (F := r) fun x hx => by have := h4 x hx; omega]
theorem Rise.del (h : Rise F) (id : Int) : Rise (del F id) := List.Pairwise.filter _ h
theorem Rise.ins (h : Rise F) (id s : Int) : Rise (ins F id s) := by
  refine List.pairwise_append.2 ⟨List.Pairwise.filter _ h, List.pairwise_cons.2 ⟨fun x hx => ?_, List.Pairwise.filter _ h⟩, fun x hx y hy => ?_⟩
  · simpa using (List.mem_filter.1 hx).2
  · have h1 : x.1 < id := by simpa using (List.mem_filter.1 hx).2
    rcases List.mem_cons.1 hy with rfl | hy
    · exact h1
    · have h2 : id < y.1 := by simpa using (List.mem_filter.1 hy).2
      omega
theorem ins_perm (h : fd F id = none) : (ins F id s).Perm ((id, s) :: F) := by
  have hn := fd_none h
  have e : (F.filter fun x => decide (id < x.1)) = F.filter fun x => !decide (x.1 < id) := List.filter_congr fun x hx => by
    have := hn x hx
    by_cases h1 : x.1 < id
    · rw [decide_eq_true h1, decide_eq_false (by omega)]; rfl
    · rw [decide_eq_false h1, decide_eq_true (by omega)]; rfl
  unfold ins
  rw [e]
  exact List.perm_middle.trans (List.Perm.cons _ (List.filter_append_perm _ F))
theorem ins_length (h : fd F id = none) : (ins F id s).length = F.length + 1 := by
  rw [(ins_perm (s := s) h).length_eq]; rfl
theorem fd_ins (h : Rise F) : fd (ins F id s) id = some s := fd_here (h.ins id s)
theorem fd_ins_ne {j : Int} (h : fd F id = none) (hR : Rise F) (hj : j ≠ id) (hm : (fd F j).isSome = true) : (fd (ins F id s) j).isSome = true := by
  obtain ⟨v, hv⟩ := Option.isSome_iff_exists.1 hm
  have h1 := (ins_perm (s := s) h).mem_iff.2 (List.mem_cons_of_mem _ (fd_mem hv))
  cases h2 : fd (ins F id s) j with
  | some x => rfl
  | none => exact absurd rfl (fd_none h2 _ h1)
/-! ### rows that hold the same -/
theorem Rise.inj (h : Rise F) {i j : Nat} (hi : i < F.length) (hj : j < F.length) (e : F[i].1 = F[j].1) : i = j := by
  have hp := List.pairwise_iff_getElem.1 h
  rcases Nat.lt_trichotomy i j with h1 | h1 | h1
  · have := hp i j hi hj h1; omega
  · exact h1
  · have := hp j i hj hi h1; omega
theorem Rise.rank (h : Rise F) {i : Nat} (hi : i < F.length) : rk F F[i].1 = i := by
  have h1 : F = F.take i ++ F[i] :: F.drop (i + 1) := by rw [← List.drop_eq_getElem_cons hi, List.take_append_drop]
  have h2 : Rise (F.take i ++ (F[i].1, F[i].2) :: F.drop (i + 1)) := by rw [← h1]; exact h
  have h3 := rk_low h2 (Int.le_refl _)
  have e : rk F F[i].1 = rk (F.take i ++ (F[i].1, F[i].2) :: F.drop (i + 1)) F[i].1 := by rw [← h1]
  obtain ⟨-, -, h4, -⟩ := h2.parts
  rw [e, h3, rk_all h4, List.length_take, Nat.min_eq_left (by omega)]
theorem fd_of_mem (h : Rise F) {v : Int} (hm : (id, v) ∈ F) : fd F id = some v := by
  cases h2 : fd F id with
  | none => exact absurd rfl (fd_none h2 _ hm)
  | some u =>
    have hu := fd_mem h2
    obtain ⟨i, hi, ei⟩ := List.getElem_of_mem hm
    obtain ⟨j, hj, ej⟩ := List.getElem_of_mem hu
    have := h.inj hi hj (by rw [ei, ej])
    subst this
    rw [ei] at ej
    injection ej with _ ej
    rw [ej]
theorem fd_perm (h : Rise F) (hp : F.Perm G) : fd G id = fd F id := by
  cases h2 : fd G id with
  | none =>
    have h3 := fd_none h2
    exact (fd_none_of fun x hx => h3 x (hp.mem_iff.1 hx)).symm
  | some v => exact (fd_of_mem h (hp.mem_iff.2 (fd_mem h2))).symm
theorem rk_perm (hp : F.Perm G) : rk G id = rk F id := (hp.countP_eq _).symm
theorem del_perm (hp : F.Perm G) : (del F id).Perm (del G id) := hp.filter _
theorem ins_perm' (h : fd F id = none) (hp : F.Perm G) : (ins F id s).Perm (G ++ [(id, s)]) :=
  ((ins_perm h).trans (hp.cons _)).trans (List.perm_append_comm (l₁ := [(id, s)]))
theorem del_len (F : List (Int × Int)) (id : Int) : decide ((del F id).length < F.length) = (fd F id).isSome := by
  cases h : fd F id with
  | none => rw [del_same (fd_none h)]; simp
  | some v =>
    have hm := fd_mem h
    refine decide_eq_true ?_
    rcases Nat.lt_or_ge (del F id).length F.length with h1 | h1
    · exact h1
    · have h2 := List.filter_sublist (p := fun x : Int × Int => x.1 != id) (l := F)
      have h3 : del F id = F := h2.eq_of_length_le h1
      rw [← h3] at hm
      have := (List.mem_filter.1 hm).2
      simp at this
theorem del_length_le (F : List (Int × Int)) (id : Int) : (del F id).length ≤ F.length := List.length_filter_le _ _
theorem ins_length_le (F : List (Int × Int)) (id s : Int) (h : fd F id = none) : (ins F id s).length ≤ F.length + 1 := Nat.le_of_eq (ins_length h)
/-- a number that is there stands at its rank -/
theorem at_rank (h : Rise F) (hs : (fd F id).isSome = true) : atp F (rk F id : Int) = some id := by
  obtain ⟨v, hv⟩ := Option.isSome_iff_exists.1 hs
  obtain ⟨i, hi, e⟩ := List.getElem_of_mem (fd_mem hv)
  have h1 := h.rank hi
  rw [e] at h1
  unfold atp
  rw [if_pos (by omega), Int.toNat_natCast]
  dsimp only at h1
  rw [h1, List.getElem?_eq_getElem hi, e]
  rfl
/-! ### numbers laid at their ranks -/
def Laid (G : List (Int × Int)) (i : Nat) (o : List Int) : Prop := o.length = G.length ∧ ∀ j (hj : j < G.length), j < i → o[rk G G[j].1]? = some G[j].1
theorem Laid.step (h : Rise F) (hp : F.Perm G) {i : Nat} {o : List Int} (hL : Laid G i o) (hi : i < G.length) : Laid G (i + 1) (o.set (rk G G[i].1) G[i].1) ∧ rk G G[i].1 < o.length := by
  have key : ∀ j (hj : j < G.length), ∃ p, ∃ hp : p < F.length, F[p] = G[j] ∧ rk G G[j].1 = p := fun j hj => by
    obtain ⟨p, hp2, e⟩ := List.getElem_of_mem (hp.mem_iff.2 (List.getElem_mem hj))
    refine ⟨p, hp2, e, ?_⟩
    rw [rk_perm hp, ← e]
    exact h.rank hp2
  obtain ⟨p, hp2, ep, er⟩ := key i hi
  have hlen := hp.length_eq
  have hlt : rk G G[i].1 < o.length := by rw [er, hL.1]; omega
  refine ⟨⟨by rw [List.length_set]; exact hL.1, fun j hj hji => ?_⟩, hlt⟩
  obtain ⟨q, hq, eq, es⟩ := key j hj
  rw [List.getElem?_set]
  by_cases hpq : rk G G[i].1 = rk G G[j].1
  · rw [if_pos hpq, if_pos hlt]
    have : p = q := by omega
    subst this
    have e2 : G[i] = G[j] := by rw [← ep, ← eq]
    rw [e2]
  · rw [if_neg hpq]
    refine hL.2 j hj ?_
    rcases Nat.lt_or_ge j i with h1 | h1
    · exact h1
    · have : j = i := by omega
      subst this
      exact absurd rfl hpq
theorem Laid.end_ (h : Rise F) (hp : F.Perm G) {o : List Int} (hL : Laid G G.length o) : o = F.map (·.1) := by
  have hlen := hp.length_eq
  refine List.ext_getElem? fun p => ?_
  rcases Nat.lt_or_ge p F.length with h1 | h1
  · obtain ⟨j, hj, e⟩ := List.getElem_of_mem (hp.mem_iff.1 (List.getElem_mem h1))
    have h2 := hL.2 j hj hj
    rw [rk_perm hp, e, h.rank h1] at h2
    rw [h2, List.getElem?_map, List.getElem?_eq_getElem h1]
    rfl
  · rw [List.getElem?_eq_none (by rw [hL.1]; omega), List.getElem?_eq_none (by simpa using h1)]
end
/-! ### trees -/
theorem T.ne_of_pos {t : T} (h : 0 < t.n) : ∃ b l k s r, t = .node b l k s r := by
  cases t with
  | nil => cases h
  | node b l k s r => exact ⟨b, l, k, s, r, rfl⟩
/-- the leftmost node: its block, and what is in it -/
def T.first : T → Nat × Int × Int
  | .nil => (0, 0, 0)
  | .node b .nil k s _ => (b, k, s)
  | .node _ (.node b l k s r) _ _ _ => T.first (.node b l k s r)
theorem T.first_flat : ∀ (t : T), t ≠ .nil → ∃ R, t.flat = (t.first.2.1, t.first.2.2) :: R
  | .nil, h => absurd rfl h
  | .node b .nil k s r, _ => ⟨r.flat, rfl⟩
  | .node b (.node b2 l2 k2 s2 r2) k s r, _ => by
    obtain ⟨R, e⟩ := T.first_flat (.node b2 l2 k2 s2 r2) (by simp)
    refine ⟨R ++ (k, s) :: r.flat, ?_⟩
    rw [T.flat, e]
    rfl
end Go.Proofs.Ytaickhhbdbbmjaa.direct
