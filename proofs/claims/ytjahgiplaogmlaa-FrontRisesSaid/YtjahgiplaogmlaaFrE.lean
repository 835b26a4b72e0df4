/-
  The contracts of Push, Pop, Top at a walk's heap; of first; of enter (what stands behind a node comes, no lower than it).
-/
import Derived.Test.YtjahgiplaogmlaaFr
namespace Go.Proofs.Ytjahgiplaogmlaa.fro
open Go.RowKit law bytes only flat heapM Go.Sort Go.Shelf
set_option linter.unusedVariables false

/-- where a row's entry stands -/
theorem Sl.ent {w : World} {B : Nat} {A : Option Addr} {l : List Ent} {k : Nat} (h : Sl w B A (l.flatMap ec)) (hk : k < l.length) : ∃ b o, A = some ⟨b, o, none⟩ ∧ b < B ∧
    w.cell? ⟨b, o + k * 3, none⟩ = some (.int .i64 l[k].1) ∧ w.cell? ⟨b, o + k * 3 + 1, none⟩ = some (.int .i64 l[k].2.1) ∧ w.cell? ⟨b, o + k * 3 + 2, none⟩ = some (.int .u64 l[k].2.2) := by
  have hl : (l.flatMap ec).length = l.length * 3 := flat_length ec_len l
  obtain ⟨b, o, rfl, hb, hc⟩ := Sl.place h (by omega)
  refine ⟨b, o, rfl, hb, ?_⟩
  have g := fun j (hj : j < 3) => flat_get ec_len l k j hk hj
  have q : ∀ j (hj : j < 3) u, (ec l[k])[j]? = some u → w.cell? ⟨b, o + (k * 3 + j), none⟩ = some u := fun j hj u hu => by
    have l0 : k * 3 + j < (l.flatMap ec).length := by omega
    have := (List.getElem?_eq_getElem l0).symm.trans ((g j hj).trans hu)
    rw [← Option.some.inj this]
    exact hc _ l0
  exact ⟨q 0 (by omega) _ rfl, by rw [Nat.add_assoc]; exact q 1 (by omega) _ rfl, by rw [Nat.add_assoc]; exact q 2 (by omega) _ rfl⟩
section
variable {base wb hb o : Nat} {T : Nat → Prop} {F : Value} {d : Array Ent} {w w' : World}
theorem Wk.base_le (h : Wk w base wb hb T F d o) : base ≤ w.heap.size := Nat.le_of_lt (Nat.lt_of_le_of_lt (h.low _ h.at_).1 (h.low _ h.at_).2)
theorem push_wk (h : Wk w base wb hb T F d o) (x : Ent) (hsz : (d.size + 1) * 24 ≤ 140737488355328) :
    Calls Try.prog 21 #[.pointer (some ⟨hb, 0, none⟩), tE x] w fun e w' => e = .returned (.tuple #[]) ∧ ∃ d', Left base wb hb F T (fun _ => False) w w' d' o ∧ d'.toList.Perm (x :: d.toList) := by
  have hbs := h.base_le
  obtain ⟨v, h1, h2, h3, h4, h5, h6, h7, h8⟩ := h
  refine (push_ent ce order_enters order_tells swo x w h2 h3 hbs hsz).mono ?_
  rintro e w' ⟨rfl, ho, v', d', hh, hH, hp, hm⟩
  have hnw : ¬ Mine hb v wb := fun e => e.elim h6 h7
  refine ⟨rfl, d', ⟨fun i => i = wb ∨ Mine hb v' i, ⟨v', Blk.only h1 ho hnw, hh, hH, h4, h5, h6, fun e => ?_, fun i => Iff.rfl⟩, ho.mono fun i e => .inl (.inl ((h8 i).2 (.inr e))), fun i e => ?_⟩, hp⟩
  · rcases hm with e2 | ⟨g, e2, hg⟩
    · exact h7 (e2 ▸ e)
    · have hl := h1.lt
      rw [e2] at e
      injection e with e
      omega
  · rcases e with e | e | e
    · exact .inl ((h8 i).2 (.inl e))
    · exact .inl ((h8 i).2 (.inr (.inl e)))
    · rcases hm with e2 | ⟨g, e2, hg⟩
      · exact .inl ((h8 i).2 (.inr (.inr (e2 ▸ e))))
      · rw [e2] at e
        injection e with e
        exact .inr (by omega)
theorem pop_wk (h : Wk w base wb hb T F d o) (h0 : 0 < d.size) (hsz : d.size < 2305843009213693952) :
    Calls Try.prog 22 #[.pointer (some ⟨hb, 0, none⟩)] w fun e w' => e = .returned (.tuple #[tE d[0]!, .bool true]) ∧ ∃ d', Left base wb hb F T (fun _ => False) w w' d' o ∧ (d[0]! :: d'.toList).Perm d.toList := by
  obtain ⟨v, h1, h2, h3, h4, h5, h6, h7, h8⟩ := h
  refine (pop_ent ce order_enters order_tells swo w h2 h3 h0 hsz).mono ?_
  rintro e w' ⟨rfl, ho, v', d', hh, hH, hp, hm⟩
  have hnw : ¬ Mine hb v wb := fun e => e.elim h6 h7
  refine ⟨rfl, d', ⟨T, ⟨v', Blk.only h1 ho hnw, hh, hH, h4, h5, h6, by rw [hm]; exact h7, fun i => (h8 i).trans ⟨fun e => e.imp id fun e => e.imp id fun e => by rw [hm]; exact e, fun e => e.imp id fun e => e.imp id fun e => by rw [hm] at e; exact e⟩⟩, ho.mono fun i e => .inl (.inl ((h8 i).2 (.inr e))), fun i e => .inl e⟩, hp⟩
theorem top_wk (h : Wk w base wb hb T F d o) : Calls Try.prog 25 #[.pointer (some ⟨hb, 0, none⟩)] w fun e w' => e = .returned (topE d) ∧ Below w.heap.size w w' := by
  obtain ⟨v, h1, h2, h3, h4, h5, h6, h7, h8⟩ := h
  exact top_ent h2
/-- what Top and first tell -/
def topT (d : Array Ent) : Ent × Bool := if d.size = 0 then ((0, 0, 0), false) else (d[0]!, true)
theorem topE_is (d : Array Ent) : topE d = .tuple #[tE (topT d).1, .bool (topT d).2] := by
  unfold topE topT
  by_cases h : d.size = 0
  · rw [if_pos h, if_pos h]
  · rw [if_neg h, if_neg h]
set_option maxRecDepth 100000 in
set_option maxHeartbeats 1600000 in
theorem first_any (h : Wk w base wb hb T F d o) : Calls Try.prog 18 #[.pointer (some ⟨wb, 0, none⟩)] w fun e w' => e = .returned (.tuple #[tE (topT d).1, .bool (topT d).2]) ∧ Below w.heap.size w w' := by
  have hb1 : Below w.heap.size w (w.alloc (.cells #[.int .i64 0, .int .i64 0, .int .u64 0] 44)) := (Below.refl _ _).alloc (Nat.le_refl _) _
  have h1 := h.below hb1
  have HT := top_wk h1
  rw [topE_is] at HT
  generalize (topT d).1 = x at HT ⊢
  generalize (topT d).2 = t at HT ⊢
  unfold tE at HT ⊢
  have q1 : (w.alloc (.cells #[.int .i64 0, .int .i64 0, .int .u64 0] 44)).cell? ⟨wb, 1, none⟩ = some (.pointer (some ⟨hb, 0, none⟩)) := h1.blk.cell 1
  have HE : Hid (∀ W, Below (w.alloc (.cells #[.int .i64 0, .int .i64 0, .int .u64 0] 44)).heap.size (w.alloc (.cells #[.int .i64 0, .int .i64 0, .int .u64 0] 44)) W → Blk W w.heap.size 44 #[.int .i64 0, .int .i64 0, .int .u64 0] ∧ Below w.heap.size w W) := Lib.hid fun W hW =>
    ⟨(Blk.new w _ _).below hW (by simp), hb1.trans (hW.mono (by simp))⟩
  have HH := Lib.hid HT
  clear h h1 HT hb1
  go_enter Try.func18, Try.ntmps18
  go_wp2_with (fail)
  refine HH.out.mono ?_
  rintro e w1 ⟨rfl, hb2⟩
  obtain ⟨b0, hB⟩ := HE.out w1 hb2
  have c0 := b0.cell 0
  have c1 := b0.cell 1
  have c2 := b0.cell 2
  have f0 := b0.frozen 0
  have f1 := b0.frozen 1
  have f2 := b0.frozen 2
  simp only [List.getElem?_toArray, List.getElem?_cons_succ, List.getElem?_cons_zero] at c0 c1 c2
  have b1 := ((b0.set_ 0 (.int .i64 x.1)).set_ 1 (.int .i64 x.2.1)).set_ 2 (.int .u64 x.2.2)
  have hE : Below w.heap.size w (((w1.setCell ⟨w.heap.size, 0, none⟩ (.int .i64 x.1)).setCell ⟨w.heap.size, 1, none⟩ (.int .i64 x.2.1)).setCell ⟨w.heap.size, 2, none⟩ (.int .u64 x.2.2)) := ((hB.setCell (p := ⟨w.heap.size, 0, none⟩) (Nat.le_refl _) _).setCell (p := ⟨w.heap.size, 1, none⟩) (Nat.le_refl _) _).setCell (p := ⟨w.heap.size, 2, none⟩) (Nat.le_refl _) _
  have HB1 := Lib.hid b1
  have HE2 := Lib.hid hE
  clear b0 b1 hE hB HE hb2 HH
  go_wp2_with (fail)
  obtain ⟨V, hV⟩ : ∃ V, V = (((w1.setCell ⟨w.heap.size, 0, none⟩ (.int .i64 x.1)).setCell ⟨w.heap.size, 1, none⟩ (.int .i64 x.2.1)).setCell ⟨w.heap.size, 2, none⟩ (.int .u64 x.2.2)) := ⟨_, rfl⟩
  rw [← hV] at HB1 HE2 ⊢
  clear hV
  have z0 := HB1.out.cell 0
  have z1 := HB1.out.cell 1
  have z2 := HB1.out.cell 2
  simp at z0 z1 z2
  refine bodyPost_ret (v := .tuple #[.agg #[.int .i64 x.1, .int .i64 x.2.1, .int .u64 x.2.2], .bool t]) (by simp [results, Try.results18, go_sem, z0, z1, z2]) rfl ?_
  exact ⟨rfl, HE2.out⟩
end
end Go.Proofs.Ytjahgiplaogmlaa.fro
