/-
  Fars in memory: their cells, rows of them; a row that is read, a row of the call's own; two rows of the call's own side by side.
-/
import Derived.Test.YtikdnpfnijhkkaaSlK
import Derived.Test.YtikdnpfnijhkkaaSpM
import Derived.Test.YtikdnpfnijhkkaaQuiet
import Derived.Test.YtikdnpfnijhkkaaOnly
import Derived.Test.YtikdnpfnijhkkaaChecked
import Derived.Lib.Hide
import Derived.BigQuiet
import Derived.WalkMore
import Derived.WalkSpells
import Derived.RegionCalls
import Derived.Deep.RegionWith
import Derived.Deep.RegionHeld3
import Derived.Deep.QuietTactic
import Derived.Shelf.Abstract
import Derived.Laws.StructEq
namespace Go.Proofs.Ytikdnpfnijhkkaa.far
open Go.RowKit law bytes only flat hit spl Go.Sort Go.Shelf
set_option linter.unusedVariables false

/-- a far's two cells -/
def fc (x : Hit) : List Value := [.int .i64 x.1, .int .i64 x.2]
def fv (l : List Hit) : List Value := l.flatMap fc
theorem fc_len (x : Hit) : (fc x).length = 2 := rfl
theorem fv_length (l : List Hit) : (fv l).length = l.length * 2 := by
  unfold fv
  induction l with
  | nil => rfl
  | cons x t ih => rw [List.flatMap_cons, List.length_append, fc_len, ih, List.length_cons]; omega
theorem fv_append (a b : List Hit) : fv (a ++ b) = fv a ++ fv b := by simp [fv]
theorem fv_one : ∀ l : List Hit, ∀ u ∈ fv l, u.oneCell' = true := by
  intro l u hu
  simp only [fv, fc, List.mem_flatMap] at hu
  obtain ⟨x, _, h⟩ := hu
  simp at h
  rcases h with rfl | rfl <;> rfl
theorem fc_one (x : Hit) : ∀ u ∈ fc x, u.oneCell' = true := by
  intro u hu
  simp [fc] at hu
  rcases hu with rfl | rfl <;> rfl
theorem fc_oneOf (x y : Int) : ∀ u ∈ [Value.int .i64 x, Value.int .i64 y], u.oneCell' = true := by simp [Value.oneCell']
theorem fv_snoc (out : List Hit) (x y : Int) : fv (out ++ [(x, y)]) = fv out ++ [.int .i64 x, .int .i64 y] := by simp [fv, fc]
theorem fv_snoc1 (out : List Hit) (x : Hit) : fv (out ++ [x]) = fv out ++ [.int .i64 x.1, .int .i64 x.2] := by simp [fv, fc]
theorem farE : ElemK Try.prog 26 2 16 := elemK_mk (z := .agg #[.int .i64 0, .int .i64 0]) (by kernel_rfl) rfl
theorem refE : ElemK Try.prog 31 2 16 := elemK_mk (z := .agg #[.int .i64 0, .int .i64 0]) (by kernel_rfl) rfl
/-- where a row's fars stand -/
theorem Sl.far {w : World} {B : Nat} {A : Option Addr} {l : List Hit} (h : Sl w B A (fv l)) (h0 : 0 < l.length) : ∃ b o, A = some ⟨b, o, none⟩ ∧ b < B ∧
    ∀ k (hk : k < l.length), w.cell? ⟨b, o + k * 2, none⟩ = some (.int .i64 l[k].1) ∧ w.cell? ⟨b, o + k * 2 + 1, none⟩ = some (.int .i64 l[k].2) := by
  obtain ⟨b, o, rfl, hb, hc⟩ := Sl.place h (by rw [fv_length]; omega)
  refine ⟨b, o, rfl, hb, fun k hk => ?_⟩
  have g := fun j (hj : j < 2) => flat_get fc_len l k j hk hj
  have g0 := g 0 (by omega)
  have g1 := g 1 (by omega)
  have l0 : k * 2 + 0 < (fv l).length := by rw [fv_length]; omega
  have l1 : k * 2 + 1 < (fv l).length := by rw [fv_length]; omega
  have c0 := hc _ l0
  have c1 := hc _ l1
  have e0 : (fv l)[k * 2 + 0] = .int .i64 l[k].1 := Option.some.inj ((List.getElem?_eq_getElem l0).symm.trans (g0.trans rfl))
  have e1 : (fv l)[k * 2 + 1] = .int .i64 l[k].2 := Option.some.inj ((List.getElem?_eq_getElem l1).symm.trans (g1.trans rfl))
  rw [e0] at c0
  rw [e1] at c1
  exact ⟨c0, by rw [Nat.add_assoc]; exact c1⟩
/-- .. one of them -/
theorem Sl.farAt {w : World} {B : Nat} {A : Option Addr} {l : List Hit} {k : Nat} (h : Sl w B A (fv l)) (hk : k < l.length) : ∃ b o, A = some ⟨b, o, none⟩ ∧ b < B ∧
    w.cell? ⟨b, o + k * 2, none⟩ = some (.int .i64 l[k].1) ∧ w.cell? ⟨b, o + k * 2 + 1, none⟩ = some (.int .i64 l[k].2) := by
  obtain ⟨b, o, rfl, hb, hc⟩ := Sl.far h (by omega)
  exact ⟨b, o, rfl, hb, hc k hk⟩
theorem own_cap2 {w : World} {base n c : Nat} {e : TypeId} {A : Option Addr} {xs : List Value} (h : w.ownsRow base e 2 (.slice A n c) n xs) : n ≤ c := by
  obtain ⟨_, _, hv', hc⟩ := own_slice h
  injection hv' with _ _ hv'
  omega
theorem own_base {w : World} {base base' n k : Nat} {e : TypeId} {v : Value} {xs : List Value} (h : w.ownsRow base e k v n xs) (hb : base' ≤ base) : w.ownsRow base' e k v n xs :=
  ⟨h.1, h.2.imp id fun ⟨g, cap, cur, hv, hg, r⟩ => ⟨g, cap, cur, hv, Nat.le_trans hb hg, r⟩⟩
/-- what comes back reads as l; all that there was is as it was -/
def Rows (l : List Hit) (w : World) (e : Ending) (w' : World) : Prop :=
  ∃ A c, e = .returned (.slice A l.length c) ∧ l.length ≤ c ∧ Sl w' w'.heap.size A (fv l) ∧ Below w.heap.size w w'
/-- .. and is a row of the call's own -/
def Own (t : TypeId) (l : List Hit) (w : World) (e : Ending) (w' : World) : Prop :=
  ∃ A c, e = .returned (.slice A l.length c) ∧ w'.ownsRow w.heap.size t 2 (.slice A l.length c) l.length (fv l) ∧ Below w.heap.size w w'
theorem Own.rows {t : TypeId} {l : List Hit} {w w' : World} {e : Ending} (h : Own t l w e w') : Rows l w e w' := by
  obtain ⟨A, c, rfl, ho, hb⟩ := h
  exact ⟨A, c, rfl, own_cap2 ho, Sl.of_ownK ho, hb⟩
theorem Own.mk {t : TypeId} {l m : List Hit} {w w' : World} {v : Value} {n : Nat} (h : w'.ownsRow w.heap.size t 2 v n (fv m)) (he : m = l) (hb : Below w.heap.size w w') : Own t l w (.returned v) w' := by
  subst he
  obtain ⟨A, c, rfl, hc⟩ := own_slice h
  have hn : n = m.length := by have := h.1; rw [fv_length] at this; omega
  subst hn
  exact ⟨A, c, rfl, h, hb⟩
/-- two rows that come back -/
def Rows2 (a b : List Hit) (w : World) (e : Ending) (w' : World) : Prop :=
  ∃ A c A' c', e = .returned (.tuple #[.slice A a.length c, .slice A' b.length c']) ∧ a.length ≤ c ∧ b.length ≤ c' ∧ Sl w' w'.heap.size A (fv a) ∧ Sl w' w'.heap.size A' (fv b) ∧ Below w.heap.size w w'
/-- two rows of the call's own, apart from each other -/
structure Two (base : Nat) (t : TypeId) (w : World) (v v' : Value) (n n' : Nat) (a b : List Hit) : Prop where
  one : w.ownsRow base t 2 v n (fv a)
  two : w.ownsRow base t 2 v' n' (fv b)
  apart : v.ownBlock = none ∨ v'.ownBlock = none ∨ v.ownBlock ≠ v'.ownBlock
theorem Two.start (base : Nat) (t : TypeId) (w : World) : Two base t w (.slice none 0 0) (.slice none 0 0) 0 0 [] [] := ⟨World.ownsRow_nil _ _ _ _, World.ownsRow_nil _ _ _ _, .inl rfl⟩
section
variable {base : Nat} {t : TypeId} {w w' : World} {v v' : Value} {n n' : Nat} {a b : List Hit}
theorem Two.swap (h : Two base t w v v' n n' a b) : Two base t w v' v n' n b a := ⟨h.two, h.one, by
  rcases h.apart with e | e | e
  · exact .inr (.inl e)
  · exact .inl e
  · exact .inr (.inr fun k => e k.symm)⟩
theorem Two.on (h : Two base t w v v' n n' a b) (hb : Below w.heap.size w w') : Two base t w' v v' n n' a b := ⟨own_below h.one hb (Nat.le_refl _), own_below h.two hb (Nat.le_refl _), h.apart⟩
theorem Two.drewN (h : Two base t w v v' n n' a b) (k : Nat) : Two base t (w.drewN k) v v' n n' a b := ⟨h.one, h.two, h.apart⟩
theorem Two.alloc (h : Two base t w v v' n n' a b) (o : Obj) : Two base t (w.alloc o) v v' n n' a b := ⟨h.one.alloc o, h.two.alloc o, h.apart⟩
theorem Two.len (h : Two base t w v v' n n' a b) : n = a.length ∧ n' = b.length := by
  have h1 := h.one.1
  have h2 := h.two.1
  rw [fv_length] at h1 h2
  omega
/-- behind an append onto the first one, ahead of which one block was made -/
theorem Two.more (h : Two base t w v v' n n' a b) (o : Obj) {v1 : Value} {w1 : World} {x : Hit} (ho : w1.ownsRow base t 2 v1 (n + 1) (fv a ++ [.int .i64 x.1, .int .i64 x.2])) (hg : (w.alloc o).grownBy w1 v.ownBlock)
    (hat : v1.ownBlock = v.ownBlock ∨ v1.ownBlock = some (w.alloc o).heap.size) : Two base t w1 v1 v' (n + 1) n' (a ++ [x]) b := by
  refine ⟨by rw [fv_snoc1]; exact ho, (h.two.alloc o).kept hg ?_, ?_⟩
  · rcases h.apart with e | e | e
    · cases hv : v'.ownBlock with
      | none => exact .inl rfl
      | some g => right; rw [e]; simp
    · exact .inl e
    · exact .inr fun k => e k.symm
  · rcases hat with e1 | e1
    · rw [e1]; exact h.apart
    · right
      cases hv : v'.ownBlock with
      | none => exact .inl rfl
      | some g =>
        right
        rw [e1]
        intro e
        injection e with e
        have := (h.two.lt g hv).2
        simp at e
        omega
theorem Two.rows {A A' : Option Addr} {c c' : Nat} {w0 : World} (h : Two base t w (.slice A n c) (.slice A' n' c') n n' a b) (hb : Below w0.heap.size w0 w) : Rows2 a b w0 (.returned (.tuple #[.slice A n c, .slice A' n' c'])) w := by
  obtain ⟨e1, e2⟩ := h.len
  subst e1 e2
  exact ⟨A, c, A', c', rfl, own_cap2 h.one, own_cap2 h.two, Sl.of_ownK h.one, Sl.of_ownK h.two, hb⟩
end
end Go.Proofs.Ytikdnpfnijhkkaa.far
