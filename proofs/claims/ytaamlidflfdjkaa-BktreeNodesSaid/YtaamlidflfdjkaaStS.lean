/-
  The document's own rows of items: what Put and Cut come to (program-free); the contract of Cut.
-/
import Derived.Test.YtaamlidflfdjkaaRim
import Derived.Test.YtaamlidflfdjkaaGLib
namespace Go.Proofs.Ytaamlidflfdjkaa.store
open Go.RowKit law bytes only flat ord obj
open aro (Kept zK)
set_option linter.unusedVariables false

/-! ### program-free -/
def delQ (q : List (Int × Kept)) (id : Int) : List (Int × Kept) := q.filter fun p => p.1 != id
def insQ (q : List (Int × Kept)) (id : Int) (k : Kept) : List (Int × Kept) := (q.filter fun p => decide (p.1 < id)) ++ (id, k) :: q.filter fun p => decide (id < p.1)
def putQ (q : List (Int × Kept)) (id : Int) (k : Kept) : List (Int × Kept) := if (gq q id).isSome = true then q else insQ q id k
theorem gq_none {q : List (Int × Kept)} {id : Int} (h : gq q id = none) : ∀ p ∈ q, p.1 ≠ id := fun p hp e => by
  unfold gq at h
  have h1 : q.find? (fun p => p.1 == id) = none := by simpa using h
  have := List.find?_eq_none.1 h1 p hp
  simp [e] at this
theorem gq_isSome (q : List (Int × Kept)) (id : Int) : (mf (rM q) id).isSome = (gq q id).isSome := by rw [gq_rM]; simp
theorem rM_filter (q : List (Int × Kept)) (f : Int → Bool) : rM (q.filter fun p => f p.1) = (rM q).filter fun y => f y.1 := by
  unfold rM
  rw [List.filter_map]
  rfl
theorem rM_delQ (q : List (Int × Kept)) (id : Int) : rM (delQ q id) = delM (rM q) id := rM_filter q fun i => i != id
theorem rM_insQ (q : List (Int × Kept)) (id : Int) (k : Kept) : rM (insQ q id k) = insM (rM q) id k.x := by
  unfold insQ insM
  have e1 := rM_filter q fun i => decide (i < id)
  have e2 := rM_filter q fun i => decide (id < i)
  rw [← e1, ← e2]
  simp [rM]
theorem rM_putQ (q : List (Int × Kept)) (id : Int) (k : Kept) : rM (putQ q id k) = putM (rM q) id k.x := by
  unfold putQ putM
  rw [gq_isSome]
  by_cases h : (gq q id).isSome = true
  · rw [if_pos h, if_pos h]
  · rw [if_neg h, if_neg h, rM_insQ]
theorem delQ_len (q : List (Int × Kept)) (id : Int) : (delQ q id).length = q.length ↔ gq q id = none := by
  constructor
  · intro h
    refine gq_take_none fun p hp => ?_
    have h1 := (List.length_filter_eq_length_iff.1 h) p hp
    simpa using h1
  · intro h
    unfold delQ
    rw [List.filter_eq_self.2 fun p hp => by simpa using gq_none h p hp]
theorem delQ_same {q : List (Int × Kept)} {id : Int} (h : (delQ q id).length = q.length) : delQ q id = q := List.filter_eq_self.2 fun p hp => by
  have := gq_none ((delQ_len q id).1 h) p hp
  simpa using this
theorem delQ_yes {q : List (Int × Kept)} {id : Int} {k : Nat} (hk : k < q.length) (he : q[k].1 ≠ id) : delQ (q.take (k + 1)) id = delQ (q.take k) id ++ [q[k]] := by
  unfold delQ
  rw [List.take_succ_eq_append_getElem hk, List.filter_append]
  have e : [q[k]].filter (fun p => p.1 != id) = [q[k]] := by simp [he]
  rw [e]
theorem delQ_no {q : List (Int × Kept)} {id : Int} {k : Nat} (hk : k < q.length) (he : q[k].1 = id) : delQ (q.take (k + 1)) id = delQ (q.take k) id := by
  unfold delQ
  rw [List.take_succ_eq_append_getElem hk, List.filter_append]
  have e : [q[k]].filter (fun p => p.1 != id) = [] := by simp [he]
  rw [e, List.append_nil]
theorem delQ_le (q : List (Int × Kept)) (id : Int) : (delQ q id).length ≤ q.length := List.length_filter_le _ _
/-- a round of Put -/
def pstep (x : Int × Kept) (st : Bool × List (Int × Kept)) (p : Int × Kept) : Bool × List (Int × Kept) := if st.1 = false ∧ x.1 < p.1 then (true, st.2 ++ [x, p]) else (st.1, st.2 ++ [p])
def pst (x : Int × Kept) (q : List (Int × Kept)) : Bool × List (Int × Kept) := q.foldl (pstep x) (false, [])
theorem pst_next {x : Int × Kept} {q : List (Int × Kept)} {k : Nat} (hk : k < q.length) : pst x (q.take (k + 1)) = pstep x (pst x (q.take k)) q[k] := by
  unfold pst
  rw [List.take_add_one, List.getElem?_eq_getElem hk, List.foldl_append]
  rfl
theorem pst_snoc (x : Int × Kept) (q : List (Int × Kept)) (p : Int × Kept) : pst x (q ++ [p]) = pstep x (pst x q) p := by unfold pst; rw [List.foldl_append]; rfl
def RiseQ (q : List (Int × Kept)) : Prop := q.Pairwise fun a b => a.1 < b.1
theorem snoc_ind {α : Type} {P : List α → Prop} (h0 : P []) (h1 : ∀ l a, P l → P (l ++ [a])) (l : List α) : P l := by
  rw [← List.reverse_reverse l]
  induction l.reverse with
  | nil => exact h0
  | cons a t ih =>
    rw [List.reverse_cons]
    exact h1 _ _ ih
theorem pst_is (x : Int × Kept) (q : List (Int × Kept)) (hr : RiseQ q) (hne : ∀ p ∈ q, p.1 ≠ x.1) :
    (pst x q = (false, q) ∧ ∀ p ∈ q, p.1 < x.1) ∨ (pst x q = (true, insQ q x.1 x.2) ∧ ∃ p ∈ q, x.1 < p.1) := by
  revert hr hne
  refine snoc_ind (P := fun q => RiseQ q → (∀ p ∈ q, p.1 ≠ x.1) → (pst x q = (false, q) ∧ ∀ p ∈ q, p.1 < x.1) ∨ (pst x q = (true, insQ q x.1 x.2) ∧ ∃ p ∈ q, x.1 < p.1)) (fun _ _ => .inl ⟨rfl, fun p hp => by simp at hp⟩) (fun q p ih hr hne => ?_) q
  · obtain ⟨h1, h2, h3⟩ := List.pairwise_append.1 hr
    have hpn := hne p (by simp)
    rw [pst_snoc]
    rcases ih h1 (fun y hy => hne y (by simp [hy])) with ⟨e, hl⟩ | ⟨e, y, hy, hl⟩
    · rw [e]
      by_cases hc : x.1 < p.1
      · refine .inr ⟨?_, p, by simp, hc⟩
        unfold pstep
        rw [if_pos ⟨rfl, hc⟩]
        unfold insQ
        have e1 : (q ++ [p]).filter (fun y => decide (y.1 < x.1)) = q := by
          rw [List.filter_append, List.filter_eq_self.2 fun y hy => by simpa using hl y hy]
          simp; omega
        have e2 : (q ++ [p]).filter (fun y => decide (x.1 < y.1)) = [p] := by
          rw [List.filter_append, List.filter_eq_nil_iff.2 fun y hy => by have := hl y hy; simp; omega]
          simp [hc]
        rw [e1, e2]
      · refine .inl ⟨?_, fun y hy => ?_⟩
        · unfold pstep
          rw [if_neg (fun h => hc h.2)]
        · rcases List.mem_append.1 hy with hy | hy
          · exact hl y hy
          · obtain rfl : y = p := by simpa using hy
            omega
    · have hyp := h3 y hy p (by simp)
      rw [e]
      refine .inr ⟨?_, y, by simp [hy], hl⟩
      unfold pstep
      rw [if_neg (fun h => by cases h.1)]
      unfold insQ
      have e1 : (q ++ [p]).filter (fun y => decide (y.1 < x.1)) = q.filter fun y => decide (y.1 < x.1) := by
        rw [List.filter_append]
        have : [p].filter (fun y => decide (y.1 < x.1)) = [] := by simp; omega
        rw [this, List.append_nil]
      have e2 : (q ++ [p]).filter (fun y => decide (x.1 < y.1)) = (q.filter fun y => decide (x.1 < y.1)) ++ [p] := by
        rw [List.filter_append]
        have : [p].filter (fun y => decide (x.1 < y.1)) = [p] := by simp; omega
        rw [this]
      rw [e1, e2]
      simp
theorem pst_len (x : Int × Kept) (q : List (Int × Kept)) : (pst x q).2.length = q.length + (if (pst x q).1 = true then 1 else 0) := by
  refine snoc_ind (P := fun q => (pst x q).2.length = q.length + (if (pst x q).1 = true then 1 else 0)) rfl (fun q p ih => ?_) q
  · rw [pst_snoc]
    unfold pstep
    by_cases h : (pst x q).1 = false ∧ x.1 < p.1
    · rw [if_pos h]
      rw [h.1] at ih
      simp at ih ⊢
      omega
    · rw [if_neg h]
      simp only [List.length_append, List.length_singleton]
      omega
theorem putQ_len (q : List (Int × Kept)) (id : Int) (k : Kept) : (putQ q id k).length ≤ q.length + 1 := by
  have h := putM_length (rM q) id k.x
  rw [← rM_putQ, rM_length, rM_length] at h
  exact h
theorem mem_putQ {q : List (Int × Kept)} {id : Int} {k : Kept} {p : Int × Kept} (h : p ∈ putQ q id k) : p = (id, k) ∨ p ∈ q := by
  unfold putQ at h
  split at h
  · exact .inr h
  · unfold insQ at h
    rcases List.mem_append.1 h with h | h
    · exact .inr (List.mem_filter.1 h).1
    · rcases List.mem_cons.1 h with h | h
      · exact .inl h
      · exact .inr (List.mem_filter.1 h).1
theorem mem_delQ {q : List (Int × Kept)} {id : Int} {p : Int × Kept} (h : p ∈ delQ q id) : p ∈ q := (List.mem_filter.1 h).1
theorem RiseQ.del {q : List (Int × Kept)} (h : RiseQ q) (id : Int) : RiseQ (delQ q id) := List.Pairwise.filter _ h
theorem RiseQ.put {q : List (Int × Kept)} (h : RiseQ q) (id : Int) (k : Kept) : RiseQ (putQ q id k) := by
  unfold putQ
  split
  · exact h
  · refine List.pairwise_append.2 ⟨List.Pairwise.filter _ h, List.pairwise_cons.2 ⟨fun x hx => ?_, List.Pairwise.filter _ h⟩, fun x hx y hy => ?_⟩
    · simpa using (List.mem_filter.1 hx).2
    · have h1 : x.1 < id := by simpa using (List.mem_filter.1 hx).2
      rcases List.mem_cons.1 hy with rfl | hy
      · exact h1
      · have h2 : id < y.1 := by simpa using (List.mem_filter.1 hy).2
        omega
/-! ### the contract of Cut -/
/-- a row of items, away from T, and an error's number -/
def RowP (w : World) (T : Nat → Prop) (q : List (Int × Kept)) (f : Int) (e : Ending) (w' : World) : Prop := ∃ A c, e = .returned (.tuple #[.slice A q.length c, .int .i64 f]) ∧ Away w' T A (q.flatMap iE) ∧ Below w.heap.size w w'
theorem RowP.old {w w' : World} {T : Nat → Prop} {q : List (Int × Kept)} {f : Int} {A : Option Addr} {c : Nat} (h : Away w T A (q.flatMap iE)) (hb : Below w.heap.size w w') : RowP w T q f (.returned (.tuple #[.slice A q.length c, .int .i64 f])) w' := ⟨A, c, rfl, h.below hb, hb⟩
theorem RowP.mk {w w' : World} {T : Nat → Prop} {q : List (Int × Kept)} {f : Int} {A : Option Addr} {m c : Nat} (ho : w'.ownsRow w.heap.size 38 4 (.slice A m c) m (q.flatMap iE)) (hT : ∀ i, T i → i < w.heap.size) (hb : Below w.heap.size w w') : RowP w T q f (.returned (.tuple #[.slice A m c, .int .i64 f])) w' := by
  have : m = q.length := by have := ho.1; rw [flat_length iE_len] at this; omega
  subst this
  exact ⟨A, c, rfl, Away.made (by decide) ho hT, hb⟩
set_option maxRecDepth 100000 in
set_option maxHeartbeats 1600000 in
theorem rcut_any (A : Option Addr) (c : Nat) (q : List (Int × Kept)) (id : Int) (w : World) (T : Nat → Prop) (hT : ∀ i, T i → i < w.heap.size) (hs : Away w T A (q.flatMap iE)) (hq : q.length ≤ 2513169434915) :
    Calls Try.prog 12 #[.slice A q.length c, .int .u64 id] w (RowP w T (delQ q id) (if (gq q id).isSome = true then 0 else 5)) := by
  have HS := Lib.hid hs
  have HSl := Lib.hid hs.sl
  have HO0 : Hid (w.ownsRow w.heap.size 38 4 (.slice none 0 0) 0 ((delQ (q.take 0) id).flatMap iE)) := Lib.hid (World.ownsRow_nil _ _ _ _)
  have HT := Lib.hid hT
  clear hs hT
  obtain ⟨f, hf⟩ : ∃ f : Int, f = (if (gq q id).isSome = true then 0 else 5) := ⟨_, rfl⟩
  rw [← hf]
  have HF := Lib.hid hf
  clear hf
  go_enter Try.func12, Try.ntmps12
  go_wp2_with (fail)
  go_loopg [6, 7] q.length (fun gk s6 s7 wr => ∃ (k m c' : Nat) (A' : Option Addr), gk = q.length - k ∧ k ≤ q.length ∧ s6 = .slice A' m c' ∧ s7 = .int .i64 k ∧ m ≤ k ∧ wr.ownsRow w.heap.size 38 4 (.slice A' m c') m ((delQ (q.take k) id).flatMap iE) ∧ Below w.heap.size w wr)
  case atStart => exact ⟨0, 0, 0, none, rfl, Nat.zero_le _, rfl, rfl, Nat.le_refl _, HO0.out, Below.refl _ _⟩
  case round =>
    clear HO0
    obtain ⟨k, m, c', A', rfl, hk, rfl, rfl, hmk, hown, hb⟩ := hrel
    have sz := hb.size
    by_cases hlt : k < q.length
    · have i1 : (k : Int) < (q.length : Int) := by omega
      obtain ⟨b, o, rfl, -, d0, d1, d2, d3⟩ := itemAt (HSl.out.below hb) hlt
      by_cases he : q[k].1 = id
      · have HD := Lib.hid (delQ_no hlt he)
        have HN := Lib.hid hown
        have HB := Lib.hid hb
        have i2 : (id == id) = true := by simp
        have i3 : (id != id) = false := by simp
        rw [he] at d0
        clear hown hb he d1 d2 d3
        go_wp2_with (fail)
        go_roundg (q.length - (k + 1))
        case measure => omega
        case rel => exact ⟨k + 1, m, c', A', rfl, by omega, rfl, by go_num, by omega, by rw [HD.out]; exact HN.out, HB.out⟩
      · have HD := Lib.hid (delQ_yes hlt he)
        have i2 : (q[k].1 == id) = false := by simpa using he
        have i3 : (q[k].1 != id) = true := by simpa using he
        obtain ⟨p, hp⟩ : ∃ p, q[k] = p := ⟨_, rfl⟩
        rw [hp] at d0 d1 d2 d3 i2 i3 HD
        clear hp he
        go_wp2_with (at_builtin
                     refine wpList_append_slk _ rfl (.tmp 21) (.tmp 26) _ rfl w.heap.size 38 4 56 Try.underlying32 itemK (by decide) (.slice A' m c') m ((delQ (q.take k) id).flatMap iE) rfl (World.ownsRow.alloc (w := wr) hown _) _ _ 1 1 (iE p) rfl (Sl.lit wr _ _) rfl (fun u hu => iE_one [p] u (by simpa using hu)) (by omega) (by unfold maxLen; omega) (by simp; omega) ?_
                     intro v4 w4 hown4 hg4 hat4
                     have hb4 := below_appendK1 hb sz _ hown (Nat.le_refl _) hg4
                     obtain ⟨A4, c4, rfl, hc4⟩ := own_slice hown4)
        go_roundg (q.length - (k + 1))
        case measure => omega
        case rel => exact ⟨k + 1, m + 1, c4, A4, rfl, by omega, rfl, by go_num, by omega, by rw [HD.out, List.flatMap_append]; simpa using hown4, hb4⟩
    · obtain rfl : k = q.length := by omega
      have i1 : ¬ (q.length : Int) < (q.length : Int) := by omega
      rw [List.take_length] at hown
      have hml : m = (delQ q id).length := by have := hown.1; rw [flat_length iE_len] at this; omega
      by_cases hm : m = q.length
      · have hg := (delQ_len q id).1 (by omega)
        have HE : Hid (RowP w T (delQ q id) f (.returned (.tuple #[.slice A q.length c, .int .i64 5])) wr) := Lib.hid (by
          rw [delQ_same (by omega), HF.out, hg]
          exact RowP.old HS.out hb)
        subst hm
        clear hown hb hml hg
        go_wp2_with (fail)
        exact bodyPost_ret (v := .tuple #[.slice A q.length c, .int .i64 5]) (by simp [results, Try.results12, go_sem]) rfl HE.out
      · have i4 : ((m : Int) == (q.length : Int)) = false := by rw [beq_eq_false_iff_ne]; omega
        have hg : (gq q id).isSome = true := by
          cases hgq : gq q id with
          | some v => rfl
          | none => exact absurd ((delQ_len q id).2 hgq) (by omega)
        have HE : Hid (RowP w T (delQ q id) f (.returned (.tuple #[.slice A' m c', .int .i64 0])) wr) := Lib.hid (by
          rw [HF.out, if_pos hg]
          exact RowP.mk hown HT.out hb)
        clear hown hb hml hg
        go_wp2_with (fail)
        exact bodyPost_ret (v := .tuple #[.slice A' m c', .int .i64 0]) (by simp [results, Try.results12, go_sem]) rfl HE.out
end Go.Proofs.Ytaamlidflfdjkaa.store
