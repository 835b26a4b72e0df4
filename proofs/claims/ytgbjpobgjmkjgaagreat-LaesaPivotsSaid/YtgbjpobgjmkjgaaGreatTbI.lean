/-
  The contract of cut: a row is taken out, the last one takes its place.
-/
import Derived.Test.YtgbjpobgjmkjgaaGreatTbA
namespace Go.Proofs.YtgbjpobgjmkjgaaGreat.tab
open Go.RowKit Go.WideShapes law bytes only flat nums ord obj metric pv lae Go.Maps
open told (own_types blk_types)
set_option linter.unusedVariables false

section
variable {w w' : World} {base tb g mb : Nat} {n k most : Int} {T S : Nat → Prop} {vP vR : Value} {P : List At} {R : List Ro} {r : Ro}
theorem pts_cut (R : List Ro) (k : Nat) : pts (cutAt R k) = cutAt (pts R) k := cutAt_map _ R k
theorem ids_cut (R : List Ro) (k : Nat) : ids (cutAt R k) = cutAt (ids R) k := cutAt_map _ R k
theorem ix_cut (R : List Ro) (k : Nat) (f : Ro → Int × Thing) : (cutAt R k).map f = cutAt (R.map f) k := cutAt_map f R k
/-- the last place's cell is no more looked at -/
theorem take_set_last {α : Type} (l : List α) (z : α) : (l.set (l.length - 1) z).take (l.length - 1) = l.dropLast := by
  rw [List.take_set_of_le (Nat.le_refl _), List.dropLast_eq_take]
theorem cut_list {α : Type} {l : List α} {k : Nat} {x z : α} (hk : k + 1 < l.length) (hx : l[l.length - 1]? = some x) : ((l.set k x).set (l.length - 1) z).take (l.length - 1) = cutAt l k := by
  have h1 : l.getLast? = some x := by rw [List.getLast?_eq_getElem?]; exact hx
  unfold cutAt
  rw [h1]
  have := take_set_last (l.set k x) z
  rw [List.length_set] at this
  exact this
set_option maxHeartbeats 1600000 in
/-- a row less: w1 behind the map's turns, w2 behind the stores into the row of pointers -/
theorem cut_fin {w1 w2 : World} {D : DataW Unit} {at_ gR cR : Nat} (h : Tx w base tb g mb n k most T vP (.slice (some ⟨gR, 0, none⟩) R.length cR) P R) (hat : at_ < R.length)
    (ho : Only (fun i => i = mb ∨ i = gR) w w2) (hm : w2.ownsMap Tryz.prog 32 (plainElem (H := Unit) Tryz.prog 3) mb (R.length - 1) D) (hD : Pl D (cutAt (ids R) at_))
    (hrow : w2.ownsRow base 109 1 (.slice (some ⟨gR, 0, none⟩) (R.length - 1) cR) (R.length - 1) (cutAt (pts R) at_)) :
    Tx (w2.setCell ⟨tb, 3, none⟩ (.slice (some ⟨gR, 0, none⟩) (R.length - 1) cR)) base tb g mb n k most T vP (.slice (some ⟨gR, 0, none⟩) (R.length - 1) cR) P (cutAt R at_) ∧ Only T w (w2.setCell ⟨tb, 3, none⟩ (.slice (some ⟨gR, 0, none⟩) (R.length - 1) cR)) := by
  obtain ⟨w3, hw3⟩ : ∃ w3, w3 = w2.setCell ⟨tb, 3, none⟩ (.slice (some ⟨gR, 0, none⟩) (R.length - 1) cR) := ⟨_, rfl⟩
  have hz3 : w3.heap.size = w2.heap.size := by rw [hw3]; simp [World.setCell]
  have hs := ho.size
  have hgb := h.gb
  obtain ⟨D0, hm0, -⟩ := h.map
  have hTg : T gR := h.tR gR rfl
  have htg := (h.low gR hTg).1
  have htm := (h.low _ h.tm).1
  have hyR : Ty w gR 109 := Ty.own h.rows rfl
  have f1 : Off w (fun i => i = mb ∨ i = gR) := fun i t e hy => by
    rcases e with e | e
    · subst e; exact (Ty.map hm0 hy).elim
    · subst e; rw [hy.one hyR]; decide
  have htb : ¬ (tb = mb ∨ tb = gR) := fun e => by
    rcases e with e | e
    · exact Ty.map hm0 (e ▸ Ty.blk h.blk)
    · subst e; exact absurd (hyR.one (Ty.blk h.blk)) (by decide)
  have blk2 := Blk.only h.blk ho htb
  have f3 : Off w2 (· = tb) := Off.tab blk2
  have ho3 : Only (· = tb) w2 w3 := by rw [hw3]; exact Only.setCell (S := (· = tb)) (p := ⟨tb, 3, none⟩) (Only.refl _ _) (.inl rfl) _
  have hperm := cutAt_perm hat
  have hsub : ∀ s ∈ cutAt R at_, s ∈ R := fun s hs => hperm.subset (List.mem_cons_of_mem _ hs)
  have hlen : (cutAt R at_).length = R.length - 1 := cutAt_length R at_
  rw [← hw3]
  refine ⟨⟨by rw [hw3]; exact blk2.set_ 3 _, Blk.only (Blk.only h.mt ho (by omega)) ho3 h.tbg.symm, hgb, piv_off (piv_off h.piv ho f1) ho3 f3, ?_, ⟨D, ?_, ?_⟩, fun s hs => ((h.rx s (hsub s hs)).off ho f1).off ho3 f3, fun p hp => ((h.vecP p hp).off ho f1).off ho3 f3, h.bP, ?_, ?_, fun i e => ⟨(h.low i e).1, by have := (h.low i e).2; omega⟩, h.tt, h.tm, h.tP, fun i e => ?_⟩, ?_⟩
  · rw [hlen, pts_cut]
    exact own_only hrow ho3 fun i e e2 => blk_types hrow blk2 (by decide) (e2 ▸ e)
  · rw [hlen]
    exact map_only hm ho3 fun e => htb (.inl e.symm)
  · rw [ids_cut]
    exact hD
  · exact (List.pairwise_cons.1 ((hperm.pairwise_iff (fun {a b} e => Ap.symm e)).2 h.ap)).2
  · have h1 : (ids (R[at_] :: cutAt R at_)).Perm (ids R) := hperm.map _
    exact (List.nodup_cons.1 (h1.nodup_iff.2 h.nd)).2
  · have e2 : gR = i := by simpa [Value.ownBlock] using e
    subst e2
    exact hTg
  · refine (ho.mono fun i e => .inl ?_).trans ho3 fun i e => .inl (by rw [e]; exact h.tt)
    rcases e with e | e
    · rw [e]; exact h.tm
    · rw [e]; exact hTg
end
end Go.Proofs.YtgbjpobgjmkjgaaGreat.tab
