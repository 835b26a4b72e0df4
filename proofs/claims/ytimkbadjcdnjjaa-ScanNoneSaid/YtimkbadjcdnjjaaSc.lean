/-
  Items (a number, a thing where its numbers lie) in memory, rows of them; hits of items; a meter or none, one for both.
-/
import Derived.Test.YtimkbadjcdnjjaaGMet
import Derived.Test.YtimkbadjcdnjjaaGHit
import Derived.Test.YtimkbadjcdnjjaaGLib
namespace Go.Proofs.Ytimkbadjcdnjjaa.scan
open Go.RowKit law bytes only flat nums ord obj metric
open hit (Hit hv lt Rises sortH sortH_is sortH_perm sortH_rises)
set_option linter.unusedVariables false

abbrev Item := Int × At
/-- an item's cells -/
def ic (p : Item) : List Value := .int .u64 p.1 :: oc p.2
theorem ic_len (p : Item) : (ic p).length = 4 := rfl
/-- .. by value; a thing by value -/
def iW (p : Item) : Value := .agg #[.int .u64 p.1, .int .i64 p.2.x.tag, .slice p.2.a p.2.x.vec.length p.2.c, .string p.2.x.str]
def oW (p : At) : Value := .agg #[.int .i64 p.x.tag, .slice p.a p.x.vec.length p.c, .string p.x.str]
/-- an item's hit -/
def th (n : Int) (q : Thing) (p : Item) : Hit := (p.1, M n p.2.x q)
def hitsOf (n : Int) (l : List Item) (q : Thing) : List Hit := l.map (th n q)
theorem hitsOf_length (n : Int) (l : List Item) (q : Thing) : (hitsOf n l q).length = l.length := by simp [hitsOf]
theorem hitsOf_take (n : Int) (l : List Item) (q : Thing) (k : Nat) (hk : k < l.length) : hitsOf n (l.take (k + 1)) q = hitsOf n (l.take k) q ++ [th n q l[k]] := by
  unfold hitsOf
  rw [List.take_succ_eq_append_getElem hk, List.map_append]
  rfl
/-- those of a row that aren't too far -/
def near (r : Int) (l : List Hit) : List Hit := l.filter fun x => decide (x.2 ≤ r)
theorem near_snoc (r : Int) (l : List Hit) (x : Hit) : near r (l ++ [x]) = near r l ++ if x.2 ≤ r then [x] else [] := by
  unfold near
  rw [List.filter_append]
  by_cases h : x.2 ≤ r <;> simp [h]
theorem near_le (r : Int) (l : List Hit) : (near r l).length ≤ l.length := List.length_filter_le _ _
theorem near_sort (r : Int) (l : List Hit) : sortH (near r l) = near r (sortH l) :=
  (sortH_is ((sortH_perm l).filter _) (List.Pairwise.filter _ (sortH_rises l))).symm
/-! ### in memory -/
/-- a row of items in memory below block B, and their numbers -/
structure Its (W : World) (B : Nat) (A : Option Addr) (l : List Item) : Prop where
  row : Sl W B A (l.flatMap ic)
  vec : ∀ p ∈ l, Sl W B p.2.a (iv p.2.x.vec)
section
variable {W W' : World} {B : Nat} {A : Option Addr} {l : List Item}
theorem Its.below (h : Its W B A l) (o : Below B W W') : Its W' B A l := ⟨h.row.below o, fun p hp => (h.vec p hp).below o⟩
theorem Its.more {B' : Nat} (h : Its W B A l) (hB : B ≤ B') : Its W B' A l := ⟨h.row.more hB, fun p hp => (h.vec p hp).more hB⟩
theorem Its.place (h : Its W B A l) (h0 : 0 < l.length) : ∃ b o, A = some ⟨b, o, none⟩ ∧ b < B ∧ ∀ k (hk : k < l.length),
    W.cell? ⟨b, o + k * 4, none⟩ = some (.int .u64 l[k].1) ∧ W.cell? ⟨b, o + k * 4 + 1, none⟩ = some (.int .i64 l[k].2.x.tag) ∧
    W.cell? ⟨b, o + k * 4 + 2, none⟩ = some (.slice l[k].2.a l[k].2.x.vec.length l[k].2.c) ∧ W.cell? ⟨b, o + k * 4 + 3, none⟩ = some (.string l[k].2.x.str) := by
  have hlen : (l.flatMap ic).length = l.length * 4 := flat_length ic_len l
  obtain ⟨b, o, rfl, hb, hc⟩ := Sl.place h.row (by omega)
  refine ⟨b, o, rfl, hb, fun k hk => ?_⟩
  have g : ∀ j, j < 4 → W.cell? ⟨b, o + (k * 4 + j), none⟩ = (ic l[k])[j]? := fun j hj => by
    have h1 := flat_get ic_len l k j hk hj
    have hlt : k * 4 + j < (l.flatMap ic).length := by omega
    rw [List.getElem?_eq_getElem hlt] at h1
    rw [hc _ hlt, h1]
  exact ⟨g 0 (by omega), g 1 (by omega), g 2 (by omega), g 3 (by omega)⟩
end
/-! ### a meter, or none -/
def Mx (w : World) (o : Option Addr) (n k : Int) : Prop := (∃ g, o = some ⟨g, 0, none⟩ ∧ Mt w g n k) ∨ (o = none ∧ n = 0 ∧ k = 0)
/-- what it may turn -/
def tk (o : Option Addr) (i : Nat) : Prop := ∃ ad, o = some ad ∧ ad.block = i
/-- how often it was asked more -/
def cnt (o : Option Addr) (m : Int) : Int := match o with | some _ => m | none => 0
theorem cnt_zero (o : Option Addr) : cnt o 0 = 0 := by cases o <;> rfl
theorem cnt_add (o : Option Addr) (a b : Int) : cnt o a + cnt o b = cnt o (a + b) := by cases o <;> simp [cnt]
theorem cnt_le (o : Option Addr) {a : Int} (h : 0 ≤ a) : 0 ≤ cnt o a ∧ cnt o a ≤ a := by cases o <;> simp [cnt] <;> omega
/-- does Upto tell it? -/
def wi (o : Option Addr) (d most : Int) : Bool := o.isSome && decide (d ≤ most)
section
variable {W W' : World} {o : Option Addr} {n k : Int} {S : Nat → Prop}
theorem tk_none (i : Nat) : ¬ tk none i := fun ⟨_, h, _⟩ => by cases h
theorem tk_some (g : Nat) (i : Nat) : tk (some ⟨g, 0, none⟩) i ↔ g = i := ⟨fun ⟨_, h, h2⟩ => by injection h with h; rw [← h2, ← h], fun h => ⟨_, rfl, h⟩⟩
theorem Mx.lt (h : Mx W o n k) {i : Nat} (hi : tk o i) : i < W.heap.size := by
  rcases h with ⟨g, rfl, hm⟩ | ⟨rfl, _, _⟩
  · rw [← (tk_some g i).1 hi]; exact hm.lt
  · exact absurd hi (tk_none i)
theorem Mx.only (h : Mx W o n k) (ho : Only S W W') (hS : ∀ i, tk o i → ¬ S i) : Mx W' o n k := by
  rcases h with ⟨g, rfl, hm⟩ | h
  · exact .inl ⟨g, rfl, Blk.only hm ho (hS g ((tk_some g g).2 rfl))⟩
  · exact .inr h
theorem Mx.below {B : Nat} (h : Mx W o n k) (ho : Below B W W') (hB : ∀ i, tk o i → i < B) : Mx W' o n k := by
  rcases h with ⟨g, rfl, hm⟩ | h
  · exact .inl ⟨g, rfl, hm.below ho (hB g ((tk_some g g).2 rfl))⟩
  · exact .inr h
theorem Mx.on (h : Mx W o n k) (ho : Below W.heap.size W W') : Mx W' o n k := h.below ho fun i => h.lt
theorem dist_mx (p q : At) (hs : o ≠ none → Small p.x ∧ Small q.x) (s1 : Sl W W.heap.size p.a (iv p.x.vec)) (s2 : Sl W W.heap.size q.a (iv q.x.vec)) (hm : Mx W o n k) (hk : 0 ≤ k ∧ k < 9223372036854775807) :
    Calls Try.prog 31 #[.pointer o, oW p, oW q] W fun e w' => e = .returned (.int .i64 (M n p.x q.x)) ∧ Only (tk o) W w' ∧ Mx w' o n (k + cnt o 1) := by
  rcases hm with ⟨g, rfl, hm⟩ | ⟨rfl, rfl, rfl⟩
  · obtain ⟨h1, h2⟩ := hs (by simp)
    exact (cdist_any p.a q.a p.c q.c p.x q.x h1 h2 W s1 s2 hm hk).mono fun e w' ⟨he, hg, hm'⟩ => ⟨he, Only.of_grown hg fun r e => .inl ((tk_some g r).2 (by injection e)), .inl ⟨g, rfl, hm'⟩⟩
  · exact (cdist_none p.a q.a p.c q.c p.x q.x W).mono fun e w' ⟨he, hb⟩ => ⟨by rw [he, M_0 (by decide) (by decide) (by decide)], Only.of_below hb (Nat.le_refl _) _, .inr ⟨rfl, rfl, rfl⟩⟩
theorem upto_mx (p q : At) (most : Int) (hs : o ≠ none → Small p.x ∧ Small q.x) (s1 : Sl W W.heap.size p.a (iv p.x.vec)) (s2 : Sl W W.heap.size q.a (iv q.x.vec)) (hm : Mx W o n k) (hk : 0 ≤ k ∧ k < 9223372036854775807) :
    Calls Try.prog 23 #[.pointer o, oW p, oW q, .int .i64 most] W fun e w' => (∃ u, e = .returned (.tuple #[.int .i64 u, .bool (wi o (M n p.x q.x) most)]) ∧ (wi o (M n p.x q.x) most = true → u = M n p.x q.x)) ∧ Only (tk o) W w' ∧ Mx w' o n (k + cnt o 1) := by
  rcases hm with ⟨g, rfl, hm⟩ | ⟨rfl, rfl, rfl⟩
  · obtain ⟨h1, h2⟩ := hs (by simp)
    exact (cupto_any p.a q.a p.c q.c p.x q.x h1 h2 W s1 s2 hm hk most).mono fun e w' ⟨he, hg, hm'⟩ => ⟨⟨ups (M n p.x q.x) most, he, fun h => by unfold ups; rw [if_pos (by simpa [wi] using h)]⟩, Only.of_grown hg fun r e => .inl ((tk_some g r).2 (by injection e)), .inl ⟨g, rfl, hm'⟩⟩
  · exact (cupto_none p.a q.a p.c q.c p.x q.x most W).mono fun e w' ⟨he, hb⟩ => ⟨⟨0, he, fun h => by simp [wi] at h⟩, Only.of_below hb (Nat.le_refl _) _, .inr ⟨rfl, rfl, rfl⟩⟩
end
end Go.Proofs.Ytimkbadjcdnjjaa.scan
