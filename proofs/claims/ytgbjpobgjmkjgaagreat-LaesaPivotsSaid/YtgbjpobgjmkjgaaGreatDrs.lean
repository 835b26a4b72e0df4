/-
  The contracts of a source of numbers: New, next, Pick, Used; of none; what lives; the document's own At.
-/
import Derived.Test.YtgbjpobgjmkjgaaGreatDrw
import Derived.Test.YtgbjpobgjmkjgaaGreatGLib
namespace Go.Proofs.YtgbjpobgjmkjgaaGreat.draws
open Go.RowKit law bytes only came
set_option linter.unusedVariables false

/-! ### rows of ints -/
def nv (l : List Int) : List Value := l.map fun n => Value.int .i64 n
theorem nv_length (l : List Int) : (nv l).length = l.length := by simp [nv]
theorem nv_at {w : World} {B : Nat} {A : Option Addr} {l : List Int} (h : Sl w B A (nv l)) (k : Nat) (hk : k < l.length) : ∃ ad, A = some ad ∧ ad.block < B ∧ w.cell? (ad.add k) = some (.int .i64 l[k]) := by
  have := h.at_ (k := k) (by rw [nv_length]; exact hk)
  simpa [nv] using this
theorem md_nat (k : Nat) {n : Nat} (h : 0 < n) : md (k : Int) (n : Int) = ((k % n : Nat) : Int) := by
  rw [md_pos (by omega)]
  rfl
/-! ### the document's At -/
set_option maxHeartbeats 1600000 in
theorem at_any {A : Option Addr} {c : Nat} {l : List Int} (k B : Nat) (hl : l.length ≤ 17592186044416) (hk : k ≤ 17592186044416) (w : World) (hs : Sl w B A (nv l)) :
    Calls Tryz.prog 25 #[.slice A l.length c, .int .i64 k] w fun e w' => e = .returned (.int .i64 (nx l k)) ∧ w = w' := by
  rcases Nat.eq_zero_or_pos l.length with h0 | h0
  · obtain rfl := List.eq_nil_of_length_eq_zero h0
    rw [nx_none]
    clear hs
    go_enter Tryz.func25, Tryz.ntmps25
    go_wp2_with (fail)
    go_ret
    exact ⟨rfl, rfl⟩
  · obtain ⟨ad, rfl, -, hc⟩ := nv_at hs (k % l.length) (Nat.mod_lt _ h0)
    rw [nx_at h0]
    generalize l[k % l.length]'(Nat.mod_lt _ h0) = x at hc ⊢
    have hlt := Nat.mod_lt k h0
    have n0 : ((l.length : Int) == 0) = false := beq_eq_false_iff_ne.2 (by omega)
    have n1 : (l.length == 0) = false := beq_eq_false_iff_ne.2 (by omega)
    clear hs
    generalize l.length = n at *
    go_enter Tryz.func25, Tryz.ntmps25
    go_wp2_with (fail)
    go_ret
    exact ⟨rfl, rfl⟩
/-! ### a source -/
/-- a source of numbers, of which k were used, at block g -/
def So (w : World) (g : Nat) (l : List Int) (k : Nat) : Prop := ∃ A c, Blk w g 117 #[.slice A l.length c, .int .i64 k] ∧ Sl w g A (nv l)
section
variable {w w' : World} {g k : Nat} {l : List Int}
theorem So.lt (h : So w g l k) : g < w.heap.size := by
  obtain ⟨A, c, h1, -⟩ := h
  exact h1.lt
theorem So.below {B : Nat} (h : So w g l k) (hb : Below B w w') (hg : g < B) : So w' g l k := by
  obtain ⟨A, c, h1, h2⟩ := h
  exact ⟨A, c, h1.below hb hg, h2.keep fun p hp => hb.cell (by omega)⟩
theorem So.drewN (h : So w g l k) (m : Nat) : So (w.drewN m) g l k := h
end
set_option maxHeartbeats 1600000 in
theorem next_any {g k : Nat} {l : List Int} (hl : l.length ≤ 17592186044416) (hk : k ≤ 17592186044416) (w : World) (h : So w g l k) :
    Calls Tryz.prog 127 #[.pointer (some ⟨g, 0, none⟩)] w fun e w' => e = .returned (.int .i64 (nx l k)) ∧ ∃ m, w' = w.drewN m := by
  obtain ⟨A, c, h1, h2⟩ := h
  have c0 : w.cell? ⟨g, 0, none⟩ = some (.slice A l.length c) := h1.cell 0
  have c1 : w.cell? ⟨g, 1, none⟩ = some (.int .i64 k) := h1.cell 1
  rcases Nat.eq_zero_or_pos l.length with h0 | h0
  · obtain rfl := List.eq_nil_of_length_eq_zero h0
    rw [nx_none]
    clear h1 h2
    go_enter Tryz.func127, Tryz.ntmps127
    go_wp2_with (fail)
    go_ret
    exact ⟨rfl, 0, rfl⟩
  · obtain ⟨ad, rfl, -, hc⟩ := nv_at h2 (k % l.length) (Nat.mod_lt _ h0)
    rw [nx_at h0]
    generalize l[k % l.length]'(Nat.mod_lt _ h0) = x at hc ⊢
    have hlt := Nat.mod_lt k h0
    have n0 : ((l.length : Int) == 0) = false := beq_eq_false_iff_ne.2 (by omega)
    have n1 : (l.length == 0) = false := beq_eq_false_iff_ne.2 (by omega)
    have HM := Lib.hid (fun W => md_nat k h0 ▸ mod_any (k : Int) (l.length : Int) ⟨by omega, by omega⟩ ⟨by omega, by omega⟩ W)
    clear h1 h2
    generalize l.length = n at *
    obtain ⟨j, hj⟩ : ∃ j, k % n = j := ⟨_, rfl⟩
    rw [hj] at hc hlt HM
    clear hj
    have i1 : (j : Int) < (n : Int) := by omega
    go_enter Tryz.func127, Tryz.ntmps127
    go_wp2_with (fail)
    go_quiet ((go_at_call 128; exact quiet0 (HM.out _)))
    go_wp2_with (fail)
    go_ret
    exact ⟨rfl, _, rfl⟩
/-! ### Pick, Used -/
/-- what a pick leaves: the source's block alone has turned -/
def Picked (g : Nat) (l : List Int) (k : Nat) (x : Int) (w : World) (e : Ending) (w' : World) : Prop := e = .returned (.int .i64 x) ∧ Only (· = g) w w' ∧ So w' g l k
/-- how many are used behind a pick below n -/
def on (k : Nat) (n : Int) : Nat := if n < 1 then k else k + 1
theorem on_low {k : Nat} {n : Int} (h : n < 1) : on k n = k := if_pos h
theorem on_pos {k : Nat} {n : Int} (h : ¬ n < 1) : on k n = k + 1 := if_neg h
set_option maxHeartbeats 1600000 in
theorem pick_any {g k : Nat} {l : List Int} (n : Int) (hn : I64 n) (hl : l.length ≤ 17592186044416) (hi : ∀ x ∈ l, I64 x) (hk : k < 17592186044416) (w : World) (h : So w g l k) :
    Calls Tryz.prog 90 #[.pointer (some ⟨g, 0, none⟩), .int .i64 n] w (Picked g l (on k n) (md (nx l k) n) w) := by
  by_cases hlow : n < 1
  · rw [md_low hlow, on_low hlow]
    obtain ⟨hn1, hn2⟩ := hn
    go_enter Tryz.func90, Tryz.ntmps90
    go_wp2_with (fail)
    go_ret
    exact ⟨rfl, Only.refl _ _, h⟩
  · rw [on_pos hlow]
    have hN := Lib.hid (next_any hl (by omega) w h)
    have hM := Lib.hid (fun W => mod_any (nx l k) n (nx_i64 hi k) hn W)
    have hend : Hid (∀ m : Nat, So (((w.drewN m)).setCell ⟨g, 1, none⟩ (.int .i64 ((k + 1 : Nat) : Int))) g l (k + 1) ∧ Only (· = g) w (((w.drewN m)).setCell ⟨g, 1, none⟩ (.int .i64 ((k + 1 : Nat) : Int)))) := Lib.hid fun m => by
      obtain ⟨A, c, h1, h2⟩ := h
      exact ⟨⟨A, c, (h1.drewN m).set_ 1 _, (h2.drewN m).setCell (by simp) _⟩, Only.setCell (S := (· = g)) ((Only.refl _ w).drewN m) (p := ⟨g, 1, none⟩) (.inl rfl) _⟩
    obtain ⟨A, c, h1, -⟩ := h
    have HC : Hid (∀ m : Nat, (w.drewN m).cell? ⟨g, 1, none⟩ = some (.int .i64 k) ∧ ∀ i, (w.drewN m).frozen? ⟨g, i, none⟩ = false) := Lib.hid fun m => ⟨(h1.drewN m).cell 1, (h1.drewN m).frozen⟩
    clear h1
    generalize nx l k = x at hN hM ⊢
    generalize md x n = y at hM ⊢
    obtain ⟨hn1, hn2⟩ := hn
    go_enter Tryz.func90, Tryz.ntmps90
    go_wp2_with (fail)
    refine hN.out.mono ?_
    rintro e w1 ⟨rfl, m, hw1⟩
    obtain ⟨c1, cf⟩ := HC.out m
    rw [← hw1] at c1 cf
    have HE := Lib.hid (hw1 ▸ hend.out m)
    clear hN hend HC hw1
    go_wp2_with (fail)
    refine (hM.out _).mono ?_
    rintro e w2 ⟨rfl, rfl⟩
    go_wp2_with (fail)
    go_ret
    exact ⟨rfl, HE.out.2, HE.out.1⟩
set_option maxHeartbeats 1600000 in
theorem pick_none (n : Int) (w : World) : Calls Tryz.prog 90 #[.pointer none, .int .i64 n] w fun e w' => e = .returned (.int .i64 0) ∧ w = w' := by
  go_enter Tryz.func90, Tryz.ntmps90
  go_wp2_with (fail)
  go_ret
  exact ⟨rfl, rfl⟩
/-! ### New -/
/-- a copy: new memory that reads alike -/
theorem clone_any (A : Option Addr) (c : Nat) (l : List Int) (hl : l.length ≤ 17592186044416) (w : World) (hs : Sl w w.heap.size A (nv l)) :
    Calls Tryz.prog 55 #[.slice A l.length c] w fun e w' => ∃ A2 c2, e = .returned (.slice A2 l.length c2) ∧ Sl w' w'.heap.size A2 (nv l) ∧ Below w.heap.size w w' := by
  rcases Nat.eq_zero_or_pos l.length with h0 | h0
  · obtain rfl := List.eq_nil_of_length_eq_zero h0
    rcases A with _ | a
    · exact (Tryz.slices_Clone_int_nil 0 c w).mono fun e w' ⟨he, hw⟩ => ⟨none, 0, he, Sl.nil, hw ▸ Below.refl _ _⟩
    · refine (Tryz.slices_Clone_int_zero a c w).mono fun e w' ⟨v1, he, ho, _, hb1⟩ => ?_
      obtain ⟨A1, k1, rfl, _⟩ := own_slice ho
      exact ⟨A1, k1, he, Sl.nil, hb1⟩
  · obtain ⟨ad, rfl, hb, hat⟩ := hs.addr (by rw [nv_length]; exact h0)
    obtain ⟨b, o, s⟩ := ad
    have hs0 : s = none := by
      have := spot_none (hat 0 (by rw [nv_length]; exact h0))
      unfold Addr.add at this
      simpa using this
    subst hs0
    refine (Tryz.slices_Clone_int b o l.length c l w (Nat.le_refl _) (by omega) fun j hj => ?_).mono fun e w' ⟨v1, he, ho, _, hb1⟩ => ?_
    · have h2 := hat j (by rw [nv_length]; exact hj)
      have e2 : (⟨b, o, none⟩ : Addr).add j = ⟨b, o + j, none⟩ := by unfold Addr.add; split <;> simp_all
      rw [e2] at h2
      rw [h2]
      simp [nv, List.getD, List.getElem?_eq_getElem hj]
    · obtain ⟨A1, k1, rfl, _⟩ := own_slice ho
      rw [List.take_of_length_le (Nat.le_refl _)] at ho
      exact ⟨A1, k1, he, Sl.of_own ho, hb1⟩
/-- a new source -/
def Fresh (l : List Int) (w : World) (e : Ending) (w' : World) : Prop := ∃ g, e = .returned (.pointer (some ⟨g, 0, none⟩)) ∧ w.heap.size ≤ g ∧ So w' g l 0 ∧ Below w.heap.size w w'
set_option maxHeartbeats 1600000 in
theorem new_any (A : Option Addr) (c : Nat) (l : List Int) (hl : l.length ≤ 17592186044416) (w : World) (hs : Sl w w.heap.size A (nv l)) :
    Calls Tryz.prog 19 #[.slice A l.length c] w (Fresh l w) := by
  have HC := Lib.hid (clone_any A c l hl w hs)
  clear hs
  go_enter Tryz.func19, Tryz.ntmps19
  go_wp2_with (fail)
  refine HC.out.mono ?_
  rintro e w1 ⟨A2, c2, rfl, h1, hb1⟩
  have HE : Hid (Fresh l w (.returned (.pointer (some ⟨w1.heap.size, 0, none⟩))) (w1.alloc (.cells #[.slice A2 l.length c2, .int .i64 0] 117))) := Lib.hid
    ⟨_, rfl, hb1.size, ⟨A2, c2, Blk.new _ _ _, h1.alloc (Nat.le_refl _) _⟩, hb1.alloc hb1.size _⟩
  clear HC h1 hb1
  go_wp2_with (fail)
  go_ret
  exact HE.out
/-! ### what lives -/
end Go.Proofs.YtgbjpobgjmkjgaaGreat.draws
