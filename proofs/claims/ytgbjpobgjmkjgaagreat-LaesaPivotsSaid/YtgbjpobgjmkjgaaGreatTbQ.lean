/-
  The contract of addPivot, walked.
-/
import Derived.Test.YtgbjpobgjmkjgaaGreatTbP
namespace Go.Proofs.YtgbjpobgjmkjgaaGreat.tab
open Go.RowKit Go.WideShapes law bytes only flat nums ord obj metric pv lae Go.Maps
open told (own_types blk_types)
set_option linter.unusedVariables false

theorem objK : ElemK Tryz.prog 35 3 48 := elemK_mk (z := .agg #[.int .i64 0, .slice none 0 0, .string ⟨#[]⟩]) (by kernel_rfl) rfl
theorem oc_one (p : At) : ∀ u ∈ oc p, u.oneCell' = true := by
  intro u hu
  simp only [oc, List.mem_cons, List.not_mem_nil, or_false] at hu
  rcases hu with rfl | rfl | rfl <;> rfl
/-- a thing's own numbers' block -/
def Xv (x : At) (j : Nat) : Prop := (Value.slice x.a x.x.vec.length x.c).ownBlock = some j
section
variable {w w' : World} {base tb g mb B i : Nat} {n k most : Int} {T S X : Nat → Prop} {vP vR : Value} {P : List At} {x : At} {R D : List Ro} {r : Ro} {A : Option Addr} {xs : List Value}
set_option maxHeartbeats 1600000 in
theorem Tx.mid {w2 : World} {v4 : Value} {Bx : Nat} (h : Tx w base tb g mb n k most T vP vR P R) (hbf : Bf x.x) (hx : w.ownsRow Bx 21 1 (.slice x.a x.x.vec.length x.c) x.x.vec.length (iv x.x.vec)) (hBx : base ≤ Bx)
    (ho : Only (fun i => vP.ownBlock = some i) w w2) (hrow : w2.ownsRow base 35 3 v4 (P.length + 1) (ocs P ++ oc x)) (hv4 : v4.ownBlock = vP.ownBlock ∨ ∃ i, v4.ownBlock = some i ∧ w.heap.size ≤ i) :
    Mid (w2.setCell ⟨tb, 2, none⟩ v4) base tb g mb n k most T w.heap.size (Xv x) v4 vR P x R [] 0 ∧ Only T w (w2.setCell ⟨tb, 2, none⟩ v4) := by
  obtain ⟨w3, hw3⟩ : ∃ w3, w3 = w2.setCell ⟨tb, 2, none⟩ v4 := ⟨_, rfl⟩
  have hz3 : w3.heap.size = w2.heap.size := by rw [hw3]; simp [World.setCell]
  have s1 := ho.size
  have hgb := h.gb
  have hne : vP.ownBlock ≠ some tb := blk_types h.piv h.blk (by decide)
  have blk2 := Blk.only h.blk ho hne
  have ho3 : Only (· = tb) w2 w3 := by rw [hw3]; exact Only.setCell (S := (· = tb)) (p := ⟨tb, 2, none⟩) (Only.refl _ _) (.inl rfl) _
  have hO : Only (fun i => i = tb ∨ vP.ownBlock = some i) w w3 := (ho.mono (T := fun i => i = tb ∨ vP.ownBlock = some i) fun i e => .inl (.inr e)).trans ho3 fun i e => .inl (.inl e)
  have hTO : ∀ i, (i = tb ∨ vP.ownBlock = some i) → T i := fun i e => by
    rcases e with e | e
    · rw [e]; exact h.tt
    · exact h.tP i e
  have hty : ∀ i t, (i = tb ∨ vP.ownBlock = some i) → Ty w i t → t = 95 ∨ t = 35 := fun i t e hy => by
    rcases e with e | e
    · subst e; exact .inl (hy.one (Ty.blk h.blk))
    · exact .inr (hy.one (Ty.own h.piv e))
  have hnt : ∀ {i : Nat} {t : TypeId}, Ty w i t → t ≠ 95 → t ≠ 35 → ¬ (i = tb ∨ vP.ownBlock = some i) := fun {i t} hy h1 h2 e => by
    rcases hty i t e hy with e | e
    · exact h1 e
    · exact h2 e
  have hvec : ∀ (T0 : Nat → Prop) A xs, Vc w T0 A xs → Vc w3 T0 A xs := fun T0 A xs hv => hv.only hO fun i _ hy e => hnt hy (by decide) (by decide) e
  obtain ⟨D0, hm0, hp0⟩ := h.map
  have hX : ∀ i, Xv x i → Bx ≤ i ∧ i < w.heap.size := fun i e => own_lt hx e
  rw [← hw3]
  refine ⟨⟨by rw [hw3]; exact blk2.set_ 2 v4, Blk.only h.mt hO fun e => by have := (h.low _ (hTO _ e)).1; omega, hgb, own_only hrow ho3 fun i e e2 => blk_types hrow blk2 (by decide) (e2 ▸ e),
    own_only h.rows hO fun i e e2 => hnt (Ty.own h.rows e) (by decide) (by decide) e2, ⟨D0, map_only hm0 hO fun e => ?_, hp0⟩, Nat.zero_le _, rfl, fun r hr => by simp at hr, fun r hr => ?_, fun p hp => ?_, fun p hp => ?_, by simpa using h.ap, h.nd,
    fun i e => ⟨(h.low i e).1, by have := (h.low i e).2; omega⟩, fun i e => ⟨Nat.le_trans hBx (hX i e).1, by have := (hX i e).2; omega⟩, h.base_le, h.tt, h.tm, fun i e => ?_, h.tR⟩, hO.mono fun i e => .inl (hTO i e)⟩
  · rcases e with e | e
    · exact Ty.map hm0 (e ▸ Ty.blk h.blk)
    · exact Ty.map hm0 (Ty.own h.piv e)
  · have hq := h.rx r (List.mem_of_mem_drop hr)
    exact hq.turn hO (hnt (Ty.blk hq.blk) (by decide) (by decide)) (fun i e => hnt (Ty.own hq.ints e) (by decide) (by decide)) fun i hy => hnt hy (by decide) (by decide)
  · rcases List.mem_append.1 hp with hp | hp
    · exact (hvec T _ _ (h.vecP p hp)).mono fun i e => .inl e
    · simp only [List.mem_singleton] at hp
      subst hp
      exact (hvec (Xv p) _ _ (Vc.own hx fun i e => e)).mono fun i e => .inr (.inl e)
  · rcases List.mem_append.1 hp with hp | hp
    · exact h.bP p hp
    · simp only [List.mem_singleton] at hp
      subst hp
      exact hbf
  · rcases hv4 with e4 | ⟨j, e4, hj⟩
    · rw [e4] at e
      exact .inl (h.tP i e)
    · have hl := (own_lt hrow e).2
      rw [e4] at e
      injection e with e
      subst e
      exact .inr (.inr ⟨by omega, by omega⟩)
/-- what addPivot leaves -/
def PivAdded (w : World) (base tb g mb : Nat) (n k most : Int) (T : Nat → Prop) (vR : Value) (P : List At) (R : List Ro) (x : At) (e : Ending) (w' : World) : Prop :=
  e = .returned (.tuple #[]) ∧ ∃ vP' D, Tx w' base tb g mb n (k + R.length) most (Mr w.heap.size T (Xv x) w') vP' vR (P ++ [x]) D ∧ D.map kk = R.map kk ∧ Only (fun i => i = g ∨ T i) w w'
end
end Go.Proofs.YtgbjpobgjmkjgaaGreat.tab
