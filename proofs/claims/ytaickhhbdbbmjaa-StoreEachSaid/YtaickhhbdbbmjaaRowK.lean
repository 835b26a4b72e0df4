/-
  Program-free: a row of the call's own of things of k cells each, by its list: which cell stands where, a thing put in another's place, a row just made, a copy of one row into another, a row's first part with no room behind it.
-/
import Derived.Test.YtaickhhbdbbmjaaSlK
import Derived.Laws.CopyRow
import Derived.Laws.CopyOwn
import Derived.Laws.MakeOwn
namespace Go.Proofs.Ytaickhhbdbbmjaa.flat
open Go.RowKit bytes only

section
variable {α : Type} {E : α → List Value} {k : Nat} {e : TypeId} {w : World} {base g c n : Nat} {l : List α}
theorem own_cellK (h : w.ownsRow base e k (.slice (some ⟨g, 0, none⟩) n c) n (l.flatMap E)) (hk : ∀ x, (E x).length = k) (hn : l.length ≤ n) (i j : Nat) (hi : i < l.length) (hj : j < k) : w.cell? ⟨g, i * k + j, none⟩ = (E l[i])[j]? := by
  have hle : i * k + j < n * k := Nat.lt_of_lt_of_le (Nat.add_lt_add_left hj _) (by rw [← Nat.succ_mul]; exact Nat.mul_le_mul_right _ (by omega))
  rw [World.ownsRow.cellAt h _ hle, flat_get hk _ i j hi hj]
theorem own_setK (h : w.ownsRow base e k (.slice (some ⟨g, 0, none⟩) n c) n (l.flatMap E)) (hk : ∀ x, (E x).length = k) (i : Nat) (x : α) (hi : i < l.length) : (w.setCells g (i * k) (E x)).ownsRow base e k (.slice (some ⟨g, 0, none⟩) n c) n ((l.set i x).flatMap E) := by
  have hle : i * k + k ≤ l.length * k := by rw [← Nat.succ_mul]; exact Nat.mul_le_mul_right _ hi
  have h2 := list_sets (E x) (l.flatMap E) (i * k) (by rw [flat_length hk, hk]; exact hle) h
  rw [flat_set hk _ _ _ hi]
  rwa [hk] at h2
end
section
variable {P : Program}
theorem run_copy_rowK (w : World) (dT sT ty elem : TypeId) (k g o dLen dCap : Nat) (a : Addr) (sLen sCap : Nat) (cur : Array Value) (t : TypeId) (cs : List Value)
    (hu : P.underlying dT = some (.slice elem)) (hs : (P.info? elem).map (·.size) = some k)
    (hg : w.heap[g]? = some (.cells cur t (0, 0))) (hn : cs.length = Nat.min sLen dLen * k)
    (hsrc : ∀ j v, cs[j]? = some v → w.cell? (a.add j) = some v) (hfit : o + cs.length ≤ cur.size) (h1 : ∀ v ∈ cs, v.oneCell' = true) :
    (Builtin.copy_ #[dT, sT] ty #[.slice (some ⟨g, o, none⟩) dLen dCap, .slice (some a) sLen sCap]).run P w =
      .ok (goInt (Nat.min sLen dLen)) (w.setRow g (cur.toList.take o ++ cs ++ cur.toList.drop (o + cs.length)).toArray) := by
  have hl := run_loadCells_list (P := P) w a cs hsrc
  have hst := run_storeCells_at P g o t cs 0 cur w hg (by simpa using hfit) h1
  cases hq : P.info? elem with
  | none => simp [hq] at hs
  | some i =>
    have hi : i.size = k := by simpa [hq] using hs
    simp [Builtin.copy_, run_underlying hu, Builtin.lenOf, Builtin.firstCells, sizeOf, typeInfo, hq, hi, ← hn, hl, hst]
theorem run_copy_nilK (w : World) (dT sT ty elem : TypeId) (a : Addr) (dLen dCap : Nat) (hu : P.underlying dT = some (.slice elem)) (hs : ((P.info? elem).map (·.size)).isSome = true) :
    (Builtin.copy_ #[dT, sT] ty #[.slice (some a) dLen dCap, .slice none 0 0]).run P w = .ok (goInt 0) w := run_copy_nil P w dT sT ty elem a dLen dCap hu hs
end
end Go.Proofs.Ytaickhhbdbbmjaa.flat
