/-
  Program-free: append onto a slice that has no room (its capacity is its length): a row of the call's own comes of it, in a new block.
-/
import Derived.Test.YtcdjmgmombaiaaaGLib
namespace Go.Proofs.Ytcdjmgmombaiaaa.flat
open Go.RowKit bytes only came
set_option linter.unusedVariables false

theorem own_grown (w : World) (e : TypeId) (k : Nat) (z : Array Value) (hz : z.size = k) (n cap : Nat) (xs : List Value) (hl : xs.length = n * k) (hc : n ≤ cap) (hm : cap ≤ maxLen) (cur : Array Value) (hcur : cur = xs.toArray ++ Builtin.zeroCells z (cap - n)) :
    (w.alloc (.cells cur e)).ownsRow w.heap.size e k (.slice (some ⟨w.heap.size, 0, none⟩) n cap) n xs := by
  refine ⟨hl, .inr ⟨w.heap.size, cap, cur, rfl, Nat.le_refl _, Blk.new w e cur, hc, hm, ?_, ?_⟩⟩
  · rw [hcur, Array.size_append, List.size_toArray, size_zeroCells, hz, hl, ← Nat.add_mul]
    congr 1
    omega
  · rw [hcur, Array.toList_append, ← hl]
    exact List.take_left
section
variable {P : Program}
theorem run_append_full (w : World) (t ty e : TypeId) (k bytes : Nat) (ht : P.underlying t = some (.slice e)) (he : ElemK P e k bytes) (hk : 0 < k)
    (B : Nat) (A : Option Addr) (n : Nat) (olds : List Value) (hro : Sl w B A olds) (hlo : olds.length = n * k) (B' : Nat) (A' : Option Addr) (m c : Nat) (news : List Value) (hr : Sl w B' A' news) (hl : news.length = m * k) (hm : 0 < m)
    (h1 : ∀ u ∈ news, u.oneCell' = true) (hbytes : (n + m) * bytes ≤ 140737488355328) (h63 : n + m ≤ maxLen) :
    ∃ v' w', (Builtin.append_ #[t, t] ty #[.slice A n n, .slice A' m c]).run P w = .ok v' w' ∧ w'.ownsRow w.heap.size e k v' (n + m) (olds ++ news) ∧ Below w.heap.size w w' := by
  have hnp : 0 < news.length := by rw [hl]; exact Nat.mul_pos hm hk
  obtain ⟨a', rfl, -, -⟩ := hr.addr hnp
  rcases A with _ | a
  · have h0 : olds = [] := by
      rcases olds with _ | ⟨u, r⟩
      · rfl
      · obtain ⟨ad, h, _⟩ := hro 0 u rfl
        cases h
    subst h0
    obtain rfl : n = 0 := by
      rcases Nat.eq_zero_or_pos n with h | h
      · exact h
      · have := Nat.mul_pos h hk
        simp at hlo
        omega
    obtain ⟨v', w', hrun, h2, h3, h4⟩ := run_append_slk (P := P) w w.heap.size t ty e k bytes ht he hk (.slice none 0 0) 0 [] (World.ownsRow_nil _ _ _ _) B' (some a') m c news hr hl h1 hbytes h63 (Nat.le_refl _)
    exact ⟨v', w', hrun, h2, (Below.refl _ _).grown h3 (Nat.le_refl _) (by simp [Value.ownBlock])⟩
  · obtain ⟨i, z, hi, hz, hsize, hby, hzs⟩ := he
    have ho : ∀ j v, olds[j]? = some v → w.cell? (a.add j) = some v := fun j u hu => by
      obtain ⟨ad', h, _, hc⟩ := hro j u hu
      injection h with h
      rw [h]; exact hc
    have hn : ∀ j v, news[j]? = some v → w.cell? (a'.add j) = some v := fun j u hu => by
      obtain ⟨ad', h, _, hc⟩ := hr j u hu
      injection h with h
      rw [h]; exact hc
    subst hsize hby
    have h63' : n + m ≤ 9223372036854775807 := by simpa [maxLen] using h63
    have hg := run_append_grow (P := P) w t ty e i z ht hi hz a n n olds hlo ho a' m c news hl hn (by omega) (by omega) (growslice_fits (by omega) hbytes)
    refine ⟨_, _, hg, ?_, ((Below.refl w.heap.size w).drew).alloc (Nat.le_refl _) _⟩
    exact own_grown w.drew e i.size z.cells hzs (n + m) _ (olds ++ news) (by rw [List.length_append, hlo, hl, Nat.add_mul]) (grownCap_ge w (n + m) n e) (grownCap_le_maxLen w (n + m) n e h63) _ (by simp)
theorem wp_append_full (w : World) {o : Oper} {a : Act} {K : Act → World → Prop} {Q : Exit → Act → World → Prop} (s x : Operand) (t : TypeId)
    (ho : o.op = .call { callee := .builtin .append, args := #[s, x], argTypes := #[t, t] }) (e : TypeId) (k bytes : Nat) (ht : P.underlying t = some (.slice e)) (he : ElemK P e k bytes) (hk : 0 < k)
    (B : Nat) (A : Option Addr) (n : Nat) (olds : List Value) (hs : a.eval s = .slice A n n) (hro : Sl w B A olds) (hlo : olds.length = n * k) (B' : Nat) (A' : Option Addr) (m c : Nat) (news : List Value) (hx : a.eval x = .slice A' m c) (hr : Sl w B' A' news) (hl : news.length = m * k) (hm : 0 < m)
    (h1 : ∀ u ∈ news, u.oneCell' = true) (hbytes : (n + m) * bytes ≤ 140737488355328) (h63 : n + m ≤ maxLen)
    (h : ∀ v' w', w'.ownsRow w.heap.size e k v' (n + m) (olds ++ news) → Below w.heap.size w w' → K (a.put o.dst v') w') : o.wp P a w K Q := by
  obtain ⟨v', w', hrun, h2, h3⟩ := run_append_full (P := P) w t o.type e k bytes ht he hk B A n olds hro hlo B' A' m c news hr hl hm h1 hbytes h63
  unfold Oper.wp execOp
  simp only [ho, resolve, invoke, builtin, Sem.run_bind, Sem.run_pure, Result.andThen_ok, List.map_toArray, List.map_cons, List.map_nil, hs, hx, hrun]
  exact h v' w' h2 h3
theorem step_append_full (w : World) {ops : Array Oper} {o : Oper} {a : Act} {K : Act → World → Prop} {Q : Exit → Act → World → Prop} {E : Prop} (hgd : o.guard = none) (s x : Operand) (t : TypeId)
    (ho : o.op = .call { callee := .builtin .append, args := #[s, x], argTypes := #[t, t] }) (e : TypeId) (k bytes : Nat) (ht : P.underlying t = some (.slice e)) (he : ElemK P e k bytes) (hk : 0 < k)
    (B : Nat) (A : Option Addr) (n : Nat) (olds : List Value) (hs : a.eval s = .slice A n n) (hro : Sl w B A olds) (hlo : olds.length = n * k) (B' : Nat) (A' : Option Addr) (m c : Nat) (news : List Value) (hx : a.eval x = .slice A' m c) (hr : Sl w B' A' news) (hl : news.length = m * k) (hm : 0 < m)
    (h1 : ∀ u ∈ news, u.oneCell' = true) (hbytes : (n + m) * bytes ≤ 140737488355328) (h63 : n + m ≤ maxLen)
    (h : ∀ v' w', w'.ownsRow w.heap.size e k v' (n + m) (olds ++ news) → Below w.heap.size w w' → K (a.put o.dst v') w') :
    if Region.wanted o (yielded ops a.tmps) = true then Oper.wp P o a w K Q else E := by
  have hw : Region.wanted o (yielded ops a.tmps) = true := by simp [Region.wanted, hgd]
  rw [if_pos hw]
  exact wp_append_full w s x t ho e k bytes ht he hk B A n olds hs hro hlo B' A' m c news hx hr hl hm h1 hbytes h63 h
end
end Go.Proofs.Ytcdjmgmombaiaaa.flat
