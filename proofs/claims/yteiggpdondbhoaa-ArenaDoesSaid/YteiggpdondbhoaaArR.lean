/-
  The document's own arena by value: two rows that are read, away from what turns; the contracts of its Get and Set; rows of numbers that are alike.
-/
import Derived.Test.YteiggpdondbhoaaAr
namespace Go.Proofs.Yteiggpdondbhoaa.arena
open Go.RowKit law bytes only flat came
set_option linter.unusedVariables false

/-- a slot's cells, as the document has them -/
def rE (o : Option Int) : List Value := [.bool o.isSome, .int .i64 (o.getD 0)]
theorem rE_len (o : Option Int) : (rE o).length = 2 := rfl
theorem rE_one (l : List (Option Int)) : ∀ u ∈ l.flatMap rE, u.oneCell' = true := by
  intro u hu
  simp only [List.mem_flatMap, rE, List.mem_cons, List.not_mem_nil, or_false] at hu
  obtain ⟨a, -, rfl | rfl⟩ := hu <;> rfl
theorem fv_one (l : List Nat) : ∀ u ∈ fv l, u.oneCell' = true := by
  intro u hu
  simp only [fv, List.mem_map] at hu
  obtain ⟨a, -, rfl⟩ := hu
  rfl
theorem cellK : ElemK Try.prog 43 2 16 := elemK_mk (z := .agg #[.bool false, .int .i64 0]) (by kernel_rfl) rfl
/-- a row that is read, away from what turns -/
def Aw (W : World) (T : Nat → Prop) (A : Option Addr) (xs : List Value) : Prop := ∀ j u, xs[j]? = some u → ∃ ad, A = some ad ∧ ad.block < W.heap.size ∧ ¬ T ad.block ∧ W.cell? (ad.add j) = some u
section
variable {W W2 : World} {T T2 : Nat → Prop} {A : Option Addr} {xs : List Value}
theorem Aw.nil : Aw W T A [] := fun j u h => by simp at h
theorem Aw.sl (h : Aw W T A xs) : Sl W W.heap.size A xs := fun j u hj => by
  obtain ⟨ad, e, hb, _, hc⟩ := h j u hj
  exact ⟨ad, e, hb, hc⟩
theorem Aw.step (h : Aw W T A xs) (o : Only T W W2) (hT : ∀ i, i < W.heap.size → ¬ T i → ¬ T2 i) : Aw W2 T2 A xs := fun j u hj => by
  obtain ⟨ad, rfl, hb, hm, hc⟩ := h j u hj
  refine ⟨ad, rfl, Nat.lt_of_lt_of_le hb o.size, hT _ hb hm, ?_⟩
  rw [World.cell?_of_block (o.block _ (by rw [blk_add]; exact hb) (by rw [blk_add]; exact hm))]
  exact hc
theorem Aw.below (h : Aw W T A xs) (o : Below W.heap.size W W2) : Aw W2 T A xs := h.step (Only.of_below o (Nat.le_refl _) _) fun _ _ e => e
/-- what was made behind all that turns -/
theorem Aw.made {B : Nat} {e : TypeId} {k n c : Nat} (hk : 0 < k) (ho : W.ownsRow B e k (.slice A n c) n xs) (hT : ∀ i, T i → i < B) : Aw W T A xs := fun j u hj => by
  have hn : 0 < n := by
    have := ho.1
    have hj2 := (List.getElem?_eq_some_iff.1 hj).1
    rcases Nat.eq_zero_or_pos n with h0 | h0
    · rw [h0] at this; omega
    · exact h0
  obtain ⟨ad, e4, hb, hc⟩ := Sl.of_ownK ho j u hj
  obtain ⟨g, k, e1, h1, h2, _⟩ := own_form ho hn
  injection e1 with e1 _ _
  rw [e1] at e4
  injection e4 with e4
  refine ⟨ad, by rw [e1, e4], hb, fun ht => ?_, hc⟩
  have := hT _ ht
  rw [← e4] at this
  exact absurd h1 (by simpa using this)
end
/-- the document's arena by value, its rows away from what turns -/
def Rf (W : World) (M : Nat → Prop) (L F : Value) (d : List (Option Int)) (f : List Nat) : Prop :=
  ∃ A c A' c', L = .slice A d.length c ∧ d.length ≤ c ∧ F = .slice A' f.length c' ∧ f.length ≤ c' ∧ Aw W M A (d.flatMap rE) ∧ Aw W M A' (fv f)
section
variable {W W2 : World} {M M2 : Nat → Prop} {L F : Value} {d : List (Option Int)} {f : List Nat}
theorem Rf.nil : Rf W M (.slice none 0 0) (.slice none 0 0) [] [] := ⟨none, 0, none, 0, rfl, Nat.le_refl _, rfl, Nat.le_refl _, Aw.nil, Aw.nil⟩
theorem Rf.step (h : Rf W M L F d f) (o : Only M W W2) (hT : ∀ i, i < W.heap.size → ¬ M i → ¬ M2 i) : Rf W2 M2 L F d f := by
  obtain ⟨A, c, A', c', h1, h2, h3, h4, h5, h6⟩ := h
  exact ⟨A, c, A', c', h1, h2, h3, h4, h5.step o hT, h6.step o hT⟩
theorem Rf.below (h : Rf W M L F d f) (o : Below W.heap.size W W2) : Rf W2 M L F d f := h.step (Only.of_below o (Nat.le_refl _) _) fun _ _ e => e
end
/-- what a function of the document leaves: an arena, and a word -/
def RPost (w : World) (M : Nat → Prop) (d : List (Option Int)) (f : List Nat) (r : Value) (e : Ending) (w' : World) : Prop :=
  ∃ L F, e = .returned (.tuple #[.agg #[L, F], r]) ∧ Rf w' M L F d f ∧ Below w.heap.size w w'
theorem slot_cells {w : World} {B : Nat} {A : Option Addr} {d : List (Option Int)} (h : Sl w B A (d.flatMap rE)) (k : Nat) (hk : k < d.length) :
    ∃ b o, A = some ⟨b, o, none⟩ ∧ b < B ∧ w.cell? ⟨b, o + k * 2, none⟩ = some (.bool d[k].isSome) ∧ w.cell? ⟨b, o + k * 2 + 1, none⟩ = some (.int .i64 (d[k].getD 0)) := by
  have hl : (d.flatMap rE).length = d.length * 2 := flat_length rE_len d
  obtain ⟨b, o, rfl, hb, hc⟩ := Sl.place h (by omega)
  have h0 := flat_get rE_len d k 0 hk (by decide)
  have h1 := flat_get rE_len d k 1 hk (by decide)
  have c0 := hc (k * 2 + 0) (by omega)
  have c1 := hc (k * 2 + 1) (by omega)
  rw [List.getElem?_eq_getElem (by omega)] at h0 h1
  injection h0 with h0
  injection h1 with h1
  rw [h0] at c0
  rw [h1] at c1
  exact ⟨b, o, rfl, hb, c0, by rw [Nat.add_assoc]; exact c1⟩
set_option maxRecDepth 100000 in
set_option maxHeartbeats 1600000 in
theorem rget_any {w : World} {B : Nat} {A A' : Option Addr} {c m c' : Nat} {d : List (Option Int)} (h : Sl w B A (d.flatMap rE)) (i : Int) (hB : B ≤ w.heap.size) :
    Calls Try.prog 14 #[.agg #[.slice A d.length c, .slice A' m c'], .int .i64 i] w fun e w' => e = .returned (.tuple #[.int .i64 ((gt d i).getD 0), .bool (gt d i).isSome]) ∧ Below w.heap.size w w' := by
  have hb : Below w.heap.size w (w.alloc (.cells #[.slice A d.length c, .slice A' m c'] 28)) := (Below.refl _ _).alloc (Nat.le_refl _) _
  have HB := Lib.hid hb
  cases hg : gt d i with
  | none =>
    rcases gt_none hg with h0 | h0 | ⟨k, rfl, hk, hd⟩
    · have z1 : decide (i < 0) = true := decide_eq_true h0
      clear h hg hb
      go_enter Try.func14, Try.ntmps14
      go_wp2_with (fail)
      refine bodyPost_ret (v := .tuple #[.int .i64 0, .bool false]) (by simp [results, Try.results14, go_sem]) rfl ?_
      exact ⟨rfl, HB.out⟩
    · have z1 : decide (i < 0) = false := decide_eq_false (by omega)
      have z2 : decide ((d.length : Int) ≤ i) = true := decide_eq_true h0
      clear h hg hb
      go_enter Try.func14, Try.ntmps14
      go_wp2_with (fail)
      refine bodyPost_ret (v := .tuple #[.int .i64 0, .bool false]) (by simp [results, Try.results14, go_sem]) rfl ?_
      exact ⟨rfl, HB.out⟩
    · have z1 : decide ((k : Int) < 0) = false := decide_eq_false (by omega)
      have z2 : decide ((d.length : Int) ≤ (k : Int)) = false := decide_eq_false (by omega)
      have z3 : decide (d.length ≤ k) = false := decide_eq_false (by omega)
      have z4 : (k : Int) < (d.length : Int) := by omega
      obtain ⟨b, o, rfl, hbB, q0, q1⟩ := slot_cells (h.below (hb.mono hB)) k hk
      rw [hd] at q0
      simp only [Option.isSome_none] at q0
      clear h hg hb hd
      go_enter Try.func14, Try.ntmps14
      go_wp2_with (fail)
      refine bodyPost_ret (v := .tuple #[.int .i64 0, .bool false]) (by simp [results, Try.results14, go_sem]) rfl ?_
      exact ⟨rfl, HB.out⟩
  | some x =>
    obtain ⟨k, rfl, hk, hx⟩ := gt_some hg
    have z1 : decide ((k : Int) < 0) = false := decide_eq_false (by omega)
    have z2 : decide ((d.length : Int) ≤ (k : Int)) = false := decide_eq_false (by omega)
    have z3 : decide (d.length ≤ k) = false := decide_eq_false (by omega)
    have z4 : (k : Int) < (d.length : Int) := by omega
    obtain ⟨b, o, rfl, hbB, q0, q1⟩ := slot_cells (h.below (hb.mono hB)) k hk
    rw [hx] at q0 q1
    simp only [Option.isSome_some, Option.getD_some] at q0 q1
    clear h hg hb hx
    go_enter Try.func14, Try.ntmps14
    go_wp2_with (fail)
    refine bodyPost_ret (v := .tuple #[.int .i64 x, .bool true]) (by simp [results, Try.results14, go_sem]) rfl ?_
    exact ⟨rfl, HB.out⟩
/-- two rows that read alike are alike -/
theorem ints_same (A A' : Option Addr) (xs : List Nat) (c c' B B' : Nat) (w : World) (hm : xs.length ≤ 281474976710656) (hs : Sl w B A (fv xs)) (hs' : Sl w B' A' (fv xs)) :
    Calls Try.prog 17 #[.slice A xs.length c, .slice A' xs.length c'] w fun e w' => e = .returned (.bool true) ∧ Below w.heap.size w w' := by
  have HS := Lib.hid hs
  have HS' := Lib.hid hs'
  clear hs hs'
  have d0 : ((xs.length : Int) != (xs.length : Int)) = false := by simp
  go_enter Try.func17, Try.ntmps17
  go_wp2_with (fail)
  go_loopg [5] xs.length (fun gk i wr => ∃ k : Nat, gk = xs.length - k ∧ k ≤ xs.length ∧ i = .int .i64 k ∧ Below w.heap.size w wr ∧ Sl wr B A (fv xs) ∧ Sl wr B' A' (fv xs))
  case atStart => exact ⟨0, rfl, Nat.zero_le _, rfl, Below.refl _ _, HS.out, HS'.out⟩
  case round =>
    clear HS HS'
    obtain ⟨k, rfl, hk, rfl, hb, hs, hs'⟩ := hrel
    by_cases hlt : k < xs.length
    · obtain ⟨ad, rfl, hb1, hc⟩ := hs.at_ (k := k) (by rw [fv_length]; exact hlt)
      obtain ⟨ad', rfl, hb2, hc'⟩ := hs'.at_ (k := k) (by rw [fv_length]; exact hlt)
      have e1 : ∀ h, (fv xs)[k]'h = .int .i64 ((xs[k] : Nat) : Int) := fun h => by simp [fv]
      rw [e1] at hc hc'
      obtain ⟨x, hx⟩ : ∃ x, ((xs[k] : Nat) : Int) = x := ⟨_, rfl⟩
      rw [hx] at hc hc'
      have i1 : (k : Int) < (xs.length : Int) := by omega
      have d1 : (x == x) = true := by simp
      have d2 : (x != x) = false := by simp
      have HB := Lib.hid (And.intro hb.drew (And.intro (hs.drewN 1) (hs'.drewN 1)))
      clear hs hs' hx hb e1
      go_wp2_with (fail)
      go_region
      go_wp2_with (fail)
      go_roundg (xs.length - (k + 1))
      case measure => omega
      case rel => exact ⟨k + 1, rfl, by omega, by go_num, HB.out.1, HB.out.2.1, HB.out.2.2⟩
    · have i1 : ¬ (k : Int) < (xs.length : Int) := by omega
      have HB := Lib.hid hb
      clear hs hs' hb
      go_wp2_with (fail)
      go_ret
      exact ⟨rfl, HB.out⟩
/-! ### the variables of one of the document's functions: the arena, and what it gives back -/
theorem two_new (w : World) (t : TypeId) (a b : Array Value) : Below w.heap.size w ((w.alloc (.cells a t)).alloc (.cells b t)) ∧ Blk ((w.alloc (.cells a t)).alloc (.cells b t)) w.heap.size t a ∧ Blk ((w.alloc (.cells a t)).alloc (.cells b t)) (w.heap.size + 1) t b ∧
    ((w.alloc (.cells a t)).alloc (.cells b t)).heap.size = w.heap.size + 2 := by
  refine ⟨((Below.refl _ w).alloc (Nat.le_refl _) _).alloc (by simp) _, (Blk.new w t a).alloc _, ?_, by simp⟩
  have h := Blk.new (w.alloc (.cells a t)) t b
  rwa [show (w.alloc (.cells a t)).heap.size = w.heap.size + 1 from by simp] at h
theorem Blk.two {w : World} {b t : Nat} {x0 x1 : Value} (h : Blk w b t #[x0, x1]) (u0 u1 : Value) : Blk ((w.setCell ⟨b, 0, none⟩ u0).setCell ⟨b, 1, none⟩ u1) b t #[u0, u1] := by
  simpa using (h.set_ 0 u0).set_ 1 u1
theorem Below.one {B : Nat} {w V : World} (h : Below B w V) {b i : Nat} (hb : B ≤ b) (u : Value) : Below B w (V.setCell ⟨b, i, none⟩ u) := h.setCell (p := ⟨b, i, none⟩) hb u
end Go.Proofs.Yteiggpdondbhoaa.arena
