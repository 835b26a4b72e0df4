/-
  The contract of Range.
-/
import Derived.Test.YtgbjpobgjmkjgaaGreatTbY
import Derived.Test.YtgbjpobgjmkjgaaGreatGBest
import Derived.Test.YtgbjpobgjmkjgaaGreatTbS
namespace Go.Proofs.YtgbjpobgjmkjgaaGreat.tab
open Go.RowKit Go.WideShapes law bytes only flat nums ord obj metric pv lae Go.Maps
open fro (Ent ec ec_len entE)
open ens (Ord)
open hit (Hit hv hc sortH)
open best (Be keep)
open told (own_types blk_types)
set_option linter.unusedVariables false

/-- an entry's hit -/
def hof (n : Int) (q : Thing) (R : List Ro) (x : Ent) : Hit := (x.2.2, match R[x.2.1.toNat]? with | some ro => M n q ro.t.x | none => 0)
def win (n : Int) (q : Thing) (R : List Ro) (r : Int) (l : List Ent) : List Hit := (l.map (hof n q R)).filter fun h => decide (h.2 ≤ r)
theorem win_len (n : Int) (q : Thing) (R : List Ro) (r : Int) (l : List Ent) : (win n q R r l).length ≤ l.length := by
  have := List.length_filter_le (fun h : Hit => decide (h.2 ≤ r)) (l.map (hof n q R))
  simpa [win] using this
theorem win_snoc (n : Int) (q : Thing) (R : List Ro) (r : Int) (l : List Ent) (x : Ent) : win n q R r (l ++ [x]) = win n q R r l ++ (if (hof n q R x).2 ≤ r then [hof n q R x] else []) := by
  unfold win
  rw [List.map_append, List.filter_append]
  congr 1
  by_cases h : (hof n q R x).2 ≤ r <;> simp [h]
/-- the near ones of all rows -/
def nrs (n : Int) (q : Thing) (R : List Ro) (r : Int) : List Hit := (R.map fun ro => (ro.id, M n q ro.t.x)).filter fun h => decide (h.2 ≤ r)
theorem win_cnd (n : Int) (P : List At) (q : Thing) (R : List Ro) (r : Int) (k : Nat) : win n q R r (cnd (nr n P q) r R k) = nrs n q (R.take k) r := by
  induction k with
  | zero => rfl
  | succ k ih =>
    rcases Nat.lt_or_ge k R.length with hk | hk
    · have htk : nrs n q (R.take (k + 1)) r = nrs n q (R.take k) r ++ (if M n q R[k].t.x ≤ r then [(R[k].id, M n q R[k].t.x)] else []) := by
        unfold nrs
        rw [List.take_succ_eq_append_getElem hk, List.map_append, List.filter_append]
        congr 1
        by_cases h : M n q R[k].t.x ≤ r <;> simp [h]
      have htri : nr n P q R[k] ≤ M n q R[k].t.x := by
        unfold nr fs
        have := lw_row (d := M n) (M_symm n) (M_tri n) (M_nonneg n) (P.map At.x) R[k].t.x q
        rw [M_symm n q]
        exact this
      by_cases hc : nr n P q R[k] ≤ r
      · rw [cnd_yes hk hc, win_snoc, ih, htk]
        have e : hof n q R (nr n P q R[k], (k : Int), R[k].id) = (R[k].id, M n q R[k].t.x) := by
          unfold hof
          simp [hk]
        rw [e]
      · rw [cnd_no hk hc, ih, htk, if_neg (by omega), List.append_nil]
    · have e : cnd (nr n P q) r R (k + 1) = cnd (nr n P q) r R k := by
        show cnd (nr n P q) r R k ++ _ = _
        rw [List.getElem?_eq_none hk]
        simp
      rw [e, ih, List.take_of_length_le hk, List.take_of_length_le (by omega)]
theorem win_perm {n : Int} {q : Thing} {R : List Ro} {r : Int} {l l' : List Ent} (h : l.Perm l') : (win n q R r l).Perm (win n q R r l') := (h.map _).filter _
theorem keep_all {k : Nat} {l : List Hit} (h : l.length ≤ k) : keep (k : Int) l = sortH l := by
  unfold keep
  rw [List.take_of_length_le]
  rw [hit.sortH_length]
  simpa using h
/-- what Range leaves -/
def Ranged (w : World) (g : Nat) (n k : Int) (P : List At) (R : List Ro) (q : Thing) (r : Int) (e : Ending) (w' : World) : Prop :=
  ∃ A c, e = .returned (.slice A (sortH (nrs n q R r)).length c) ∧ w'.ownsRow w.heap.size 80 2 (.slice A (sortH (nrs n q R r)).length c) (sortH (nrs n q R r)).length (hv (sortH (nrs n q R r))) ∧ Only (· = g) w w' ∧ Mt w' g n (k + (P.length + (cnd (nr n P q) r R R.length).length : Nat))
/-- behind i of what is looked at -/
def RaS (w w3 : World) (g : Nat) (n k0 : Int) (q : Thing) (R : List Ro) (r : Int) (es : List Ent) (bb i : Nat) (wr : World) : Prop :=
  ∃ Tb, Be wr w3.heap.size bb Tb es.length (win n q R r (es.take i)) ∧ Only (· = g) w wr ∧ Only (· = g) w3 wr ∧ Mt wr g n (k0 + (i : Nat))
section
variable {w w' : World} {base tb g mb : Nat} {n k most : Int} {T S : Nat → Prop} {vP vR : Value} {P : List At} {R : List Ro} {r : Ro}
theorem RaS.below {w3 wr W : World} {k0 rr : Int} {q : Thing} {es : List Ent} {bb i : Nat} (h : RaS w w3 g n k0 q R rr es bb i wr) (hb : Below wr.heap.size wr W) : RaS w w3 g n k0 q R rr es bb i W := by
  obtain ⟨Tb, h1, h2, h3, h4⟩ := h
  exact ⟨Tb, h1.below hb (Nat.le_refl _), h2.on hb, h3.on hb, h4.below hb h4.lt⟩
theorem RaS.asked {w3 wr W : World} {k0 rr : Int} {q : Thing} {es : List Ent} {bb i : Nat} (h : RaS w w3 g n k0 q R rr es bb i wr) (ho : Only (· = g) wr W) (hm : Mt W g n (k0 + (i : Nat) + 1)) (hg : g < w3.heap.size) (hi : i < es.length) (hn : ¬ (hof n q R es[i]).2 ≤ rr) : RaS w w3 g n k0 q R rr es bb (i + 1) W := by
  obtain ⟨Tb, h1, h2, h3, h4⟩ := h
  refine ⟨Tb, ?_, h2.trans ho fun i e => .inl e, h3.trans ho fun i e => .inl e, ?_⟩
  · rw [List.take_succ_eq_append_getElem hi, win_snoc, if_neg hn, List.append_nil]
    exact h1.only ho fun i e e2 => by have := (h1.low e).1; omega
  · have e : k0 + ((i + 1 : Nat) : Int) = k0 + (i : Nat) + 1 := by push_cast; omega
    rw [e]
    exact hm
theorem RaS.added {w3 wr W : World} {k0 rr : Int} {q : Thing} {es : List Ent} {bb i : Nat} (h : RaS w w3 g n k0 q R rr es bb i wr) (ho : Only (· = g) wr W) (hm : Mt W g n (k0 + (i : Nat) + 1)) (hg : g < w3.heap.size) (hi : i < es.length) (hn : (hof n q R es[i]).2 ≤ rr) (hl : es.length ≤ 1048576) (hw3 : w.heap.size ≤ w3.heap.size) :
    ∀ W2, Below W.heap.size W W2 → Calls Tryz.prog 76 #[.pointer (some ⟨bb, 0, none⟩), .agg #[.int .u64 (hof n q R es[i]).1, .int .i64 (hof n q R es[i]).2]] W2 fun e w' => (∃ b, e = .returned (.bool b)) ∧ RaS w w3 g n k0 q R rr es bb (i + 1) w' := fun W2 hW2 => by
  obtain ⟨Tb, h1, h2, h3, h4⟩ := h
  have hB := (h1.only ho fun i e e2 => by have := (h1.low e).1; omega).below hW2 (Nat.le_refl _)
  have hwl := win_len n q R rr (es.take i)
  have hz : w3.heap.size ≤ W2.heap.size := by have := h3.size; have := ho.size; have := hW2.size; omega
  refine (best.add_any hB (hof n q R es[i]) hz (by rw [List.length_take] at hwl; omega)).mono fun e w' ⟨he, hO, T', hB', hT'⟩ => ⟨⟨_, he⟩, T', ?_, ?_, ?_, ?_⟩
  · rw [List.take_succ_eq_append_getElem hi, win_snoc, if_pos hn]
    exact hB'
  · exact ((h2.trans ho fun i e => .inl e).on hW2).trans hO fun i e => .inr (Nat.le_trans hw3 (hB.low e).1)
  · exact ((h3.trans ho fun i e => .inl e).on hW2).trans hO fun i e => .inr (hB.low e).1
  · have e : k0 + ((i + 1 : Nat) : Int) = k0 + (i : Nat) + 1 := by push_cast; omega
    rw [e]
    exact Blk.only (Blk.below hm hW2 hm.lt) hO fun e => by have := (hB.low e).1; omega
end
end Go.Proofs.YtgbjpobgjmkjgaaGreat.tab
