/-
  A Best by what it keeps: the contracts of its methods, of a nil one's, and what lives.
-/
import Derived.Test.YtbpahlhmdbahjaaBAdd
import Derived.Test.YtbpahlhmdbahjaaBRef
namespace Go.Proofs.Ytbpahlhmdbahjaa.best
open Go.RowKit law bytes only flat hit heapM hso Go.Sort Go.Shelf
set_option linter.unusedVariables false

/-- a Best at block bb that keeps the first k of l; T is all that it may turn -/
def Be (w : World) (base bb : Nat) (T : Nat → Prop) (k : Int) (l : List Hit) : Prop :=
  ∃ hb v d, Bx w base bb hb v k d ∧ Heap (lf cB) d ∧ d.toList.Perm (keep k l) ∧ (∀ i, T i ↔ (i = bb ∨ Mine hb v i))
section
variable {w w' : World} {base bb : Nat} {T S : Nat → Prop} {k : Int} {l : List Hit}
theorem Be.low (h : Be w base bb T k l) {i : Nat} (hi : T i) : base ≤ i ∧ i < w.heap.size := by
  obtain ⟨hb, v, d, hx, _, _, hT⟩ := h
  rcases (hT i).1 hi with rfl | rfl | e
  · exact ⟨hx.bb, hx.blk.lt⟩
  · exact ⟨hx.hb, hx.hp.lt⟩
  · exact own_lt hx.hp.2.1 e
theorem Be.below {B : Nat} (h : Be w base bb T k l) (o : Below B w w') (hB : w.heap.size ≤ B) : Be w' base bb T k l := by
  obtain ⟨hb, v, d, hx, hH, hp, hT⟩ := h
  exact ⟨hb, v, d, hx.below o hB, hH, hp, hT⟩
theorem Be.only (h : Be w base bb T k l) (o : Only S w w') (hS : ∀ i, T i → ¬ S i) : Be w' base bb T k l := by
  obtain ⟨hb, v, d, hx, hH, hp, hT⟩ := h
  exact ⟨hb, v, d, hx.only o (hS _ ((hT _).2 (.inl rfl))) (fun i e => hS _ ((hT _).2 (.inr e))), hH, hp, hT⟩
end
theorem new_any (k : Int) (w : World) : Calls Try.prog 6 #[.int .i64 k] w fun e w' => ∃ bb T, e = .returned (.pointer (some ⟨bb, 0, none⟩)) ∧ Below w.heap.size w w' ∧ Be w' w.heap.size bb T k [] :=
  (newx_any k w).mono fun e w' ⟨bb, hb, he, hbl, hx⟩ => ⟨bb, fun i => i = bb ∨ Mine hb (.slice none 0 0) i, he, hbl, hb, _, #[], hx, heap_empty, by rw [keep_nil], fun i => Iff.rfl⟩
/-- what an Add leaves -/
def AddedB (w : World) (base bb : Nat) (T : Nat → Prop) (k : Int) (l : List Hit) (x : Hit) (e : Ending) (w' : World) : Prop :=
  e = .returned (.bool (ad k l x)) ∧ Only T w w' ∧ ∃ T', Be w' base bb T' k (l ++ [x]) ∧ ∀ i, T' i → T i ∨ w.heap.size ≤ i
section
variable {w w' : World} {base bb : Nat} {T : Nat → Prop} {k : Int} {l : List Hit}
theorem add_any (h : Be w base bb T k l) (x : Hit) (hB : base ≤ w.heap.size) (hsz : (l.length + 1) * 16 ≤ 140737488355328) :
    Calls Try.prog 9 #[.pointer (some ⟨bb, 0, none⟩), .agg #[.int .u64 x.1, .int .i64 x.2]] w (AddedB w base bb T k l x) := by
  obtain ⟨hb, v, d, hx, hH, hp, hT⟩ := h
  exact (addx_any hx hH hp x hB hsz).mono fun e w' ⟨he, ho, v', d', hx', hH', hp', hm⟩ =>
    ⟨he, ho.mono (fun i e => .inl ((hT i).2 (.inr e))), fun i => i = bb ∨ Mine hb v' i, ⟨hb, v', d', hx', hH', hp', fun i => Iff.rfl⟩, fun i e => by
      rcases e with e | e | e
      · exact .inl ((hT i).2 (.inl e))
      · exact .inl ((hT i).2 (.inr (.inl e)))
      · rcases hm with e1 | ⟨g, e1, hg⟩
        · exact .inl ((hT i).2 (.inr (.inr (e1.symm.trans e))))
        · rw [e1] at e
          injection e with e
          exact .inr (by omega)⟩
theorem full_any (h : Be w base bb T k l) : Calls Try.prog 14 #[.pointer (some ⟨bb, 0, none⟩)] w fun e w' => e = .returned (.bool (decide (k ≤ ((keep k l).length : Int)))) ∧ Below w.heap.size w w' := by
  obtain ⟨hb, v, d, hx, hH, hp, hT⟩ := h
  rw [← size_of hp]
  exact fullx_any hx
theorem len_any (h : Be w base bb T k l) : Calls Try.prog 11 #[.pointer (some ⟨bb, 0, none⟩)] w fun e w' => e = .returned (.int .i64 ((keep k l).length : Int)) ∧ Below w.heap.size w w' := by
  obtain ⟨hb, v, d, hx, hH, hp, hT⟩ := h
  rw [← size_of hp]
  exact (lenx_any hx).mono fun e w' ⟨he, hw⟩ => ⟨he, hw ▸ Below.refl _ _⟩
theorem bound_any (h : Be w base bb T k l) : Calls Try.prog 12 #[.pointer (some ⟨bb, 0, none⟩)] w fun e w' => e = .returned (.int .i64 (bd k l)) ∧ Below w.heap.size w w' := by
  obtain ⟨hb, v, d, hx, hH, hp, hT⟩ := h
  have e : bdx k d = bd k l := by
    have h1 := size_of hp
    have h2 := keep_length k l
    unfold bdx
    by_cases hf : k ≤ (d.size : Int)
    · rw [if_pos hf]
      by_cases hk : k < 1
      · rw [bd_none hk, if_pos (by omega)]
      · obtain ⟨n, hn⟩ : ∃ n, k.toNat = n + 1 := ⟨k.toNat - 1, by omega⟩
        rw [if_neg (by omega), bd_full hn (by omega) hH hp]
    · rw [if_neg hf, bd_room (by omega)]
  rw [← e]
  exact boundx_any hx
theorem list_any (h : Be w base bb T k l) (hsz : l.length * 16 ≤ 140737488355328) : Calls Try.prog 10 #[.pointer (some ⟨bb, 0, none⟩)] w (Own (keep k l) w) := by
  obtain ⟨hb, v, d, hx, hH, hp, hT⟩ := h
  have h1 := size_of hp
  have h2 := keep_le k l
  exact listx_any hx hp (by omega)
end
/-! ### of nil -/
theorem full_none (w : World) : Calls Try.prog 14 #[.pointer none] w fun e w' => e = .returned (.bool true) ∧ Below w.heap.size w w' := by
  go_enter Try.func14, Try.ntmps14
  go_wp2_with (fail)
  go_region
  go_wp2_with (fail)
  go_ret
  exact ⟨rfl, by repeat' (first | (with_reducible exact Below.refl _ _) | (with_reducible refine Below.drew ?_) | (with_reducible refine below_drewN' ?_ _))⟩
theorem len_none (w : World) : Calls Try.prog 11 #[.pointer none] w fun e w' => e = .returned (.int .i64 0) ∧ w = w' := by
  go_enter Try.func11, Try.ntmps11
  go_wp2_with (fail)
  go_ret
  exact ⟨rfl, rfl⟩
theorem list_none (w : World) : Calls Try.prog 10 #[.pointer none] w fun e w' => e = .returned (.slice none 0 0) ∧ w = w' := by
  go_enter Try.func10, Try.ntmps10
  go_wp2_with (fail)
  refine bodyPost_ret (v := .slice none 0 0) (by simp [results, Try.results10, go_sem]) rfl ?_
  exact ⟨rfl, rfl⟩
set_option maxRecDepth 100000 in
set_option maxHeartbeats 1600000 in
theorem last_none (w : World) : Calls Try.prog 21 #[.pointer none] w fun e w' => e = .returned (.tuple #[.agg #[.int .u64 0, .int .i64 0], .bool false]) ∧ Below w.heap.size w w' := by
  have HB : Hid (Below w.heap.size w (w.alloc (.cells #[.int .u64 0, .int .i64 0] 30))) := Lib.hid ((Below.refl _ _).alloc (Nat.le_refl _) _)
  go_enter Try.func21, Try.ntmps21
  go_wp2_with (fail)
  refine bodyPost_ret (v := .tuple #[.agg #[.int .u64 0, .int .i64 0], .bool false]) (by simp [results, Try.results21, go_sem]) rfl ?_
  exact ⟨rfl, HB.out⟩
set_option maxHeartbeats 1600000 in
theorem bound_none (w : World) : Calls Try.prog 12 #[.pointer none] w fun e w' => e = .returned (.int .i64 (-1)) ∧ Below w.heap.size w w' := by
  have HF := Lib.hid (full_none w)
  have HT : Hid (∀ W, Below w.heap.size w W → Calls Try.prog 21 #[.pointer none] W fun e w' => e = .returned (.tuple #[.agg #[.int .u64 0, .int .i64 0], .bool false]) ∧ Below w.heap.size w w') := Lib.hid fun W hW =>
    (last_none W).mono fun e w' ⟨he, hb⟩ => ⟨he, hW.trans (hb.mono hW.size)⟩
  go_enter Try.func12, Try.ntmps12
  go_wp2_with (fail)
  refine HF.out.mono ?_
  rintro e w1 ⟨rfl, hb1⟩
  have HT1 := Lib.hid (HT.out w1 hb1)
  clear HT HF hb1
  go_wp2_with (fail)
  refine HT1.out.mono ?_
  rintro e w2 ⟨rfl, hb2⟩
  have HB2 := Lib.hid (hb2.alloc hb2.size (.cells #[.int .u64 0, .int .i64 0] 30))
  clear hb2 HT1
  go_wp2_with (fail)
  go_ret
  exact ⟨rfl, HB2.out⟩
set_option maxHeartbeats 1600000 in
theorem add_none_any (x : Hit) (w : World) : Calls Try.prog 9 #[.pointer none, .agg #[.int .u64 x.1, .int .i64 x.2]] w fun e w' => e = .returned (.bool false) ∧ Below w.heap.size w w' := by
  obtain ⟨V, hV⟩ : ∃ V, V = w.alloc (.cells #[.int .u64 x.1, .int .i64 x.2] 30) := ⟨_, rfl⟩
  have hall : Below w.heap.size w V := by rw [hV]; exact (Below.refl _ _).alloc (Nat.le_refl _) _
  have HF := Lib.hid (full_none V)
  have HT : Hid (∀ W, Below V.heap.size V W → Calls Try.prog 21 #[.pointer none] W fun e w' => e = .returned (.tuple #[.agg #[.int .u64 0, .int .i64 0], .bool false]) ∧ Below w.heap.size w w') := Lib.hid fun W hW =>
    (last_none W).mono fun e w' ⟨he, hb⟩ => ⟨he, (hall.trans (hW.mono hall.size)).trans (hb.mono (Nat.le_trans hall.size hW.size))⟩
  clear hall
  go_enter Try.func9, Try.ntmps9
  go_wp2_with (fail)
  rw [← hV]
  refine HF.out.mono ?_
  rintro e w1 ⟨rfl, hb1⟩
  have HT1 := Lib.hid (HT.out w1 hb1)
  clear HF HT hb1
  go_wp2_with (fail)
  refine HT1.out.mono ?_
  rintro e w2 ⟨rfl, hb2⟩
  have HB2 := Lib.hid (hb2.alloc hb2.size (.cells #[.int .u64 0, .int .i64 0] 30))
  clear HT1 hb2
  go_wp2_with (fail)
  refine bodyPost_ret (v := .bool false) (by simp [results, Try.results9, go_sem]) rfl ?_
  exact ⟨rfl, HB2.out⟩
end Go.Proofs.Ytbpahlhmdbahjaa.best
