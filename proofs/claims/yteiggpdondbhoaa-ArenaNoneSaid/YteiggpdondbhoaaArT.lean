/-
  An arena by what is in its slots and all that it may turn: its methods' contracts; what lives.
-/
import Derived.Test.YteiggpdondbhoaaArQ
import Derived.Test.YteiggpdondbhoaaArU
namespace Go.Proofs.Yteiggpdondbhoaa.arena
open Go.RowKit law bytes only flat
set_option linter.unusedVariables false

/-- an arena at block ab with the slots d, of which f are free; T is all that it may turn -/
def Ar (w : World) (base ab : Nat) (T : Nat → Prop) (d : List (Option Int)) (f : List Nat) : Prop := Inv d f ∧ ∃ A F e, Ax w base ab A F d e f ∧ ∀ i, T i ↔ Mine ab A F i
/-- what a method leaves -/
def Left (w : World) (base ab : Nat) (T : Nat → Prop) (d : List (Option Int)) (f : List Nat) (w' : World) : Prop := Only T w w' ∧ ∃ T', Ar w' base ab T' d f ∧ ∀ i, T' i → T i ∨ w.heap.size ≤ i
section
variable {w w' : World} {base ab : Nat} {T S : Nat → Prop} {d d' : List (Option Int)} {f f' : List Nat}
theorem Ar.low (h : Ar w base ab T d f) {i : Nat} (hi : T i) : base ≤ i ∧ i < w.heap.size := by
  obtain ⟨_, A, F, e, hx, hT⟩ := h
  exact hx.lowM ((hT i).1 hi)
theorem Ar.inv (h : Ar w base ab T d f) : Inv d f := h.1
theorem Ar.below {B : Nat} (h : Ar w base ab T d f) (o : Below B w w') (hB : w.heap.size ≤ B) : Ar w' base ab T d f := by
  obtain ⟨hi, A, F, e, hx, hT⟩ := h
  exact ⟨hi, A, F, e, hx.below o hB, hT⟩
theorem Ar.only (h : Ar w base ab T d f) (o : Only S w w') (hS : ∀ i, T i → ¬ S i) : Ar w' base ab T d f := by
  obtain ⟨hi, A, F, e, hx, hT⟩ := h
  exact ⟨hi, A, F, e, hx.only o (fun i e => hS i ((hT i).2 e)), hT⟩
theorem Left.of {A : Option Addr} {F : Value} (hi : Inv d f) (hT : ∀ i, T i ↔ Mine ab A F i) (h : Turned w base ab A F d f w') : Left w base ab T d f w' := by
  obtain ⟨ho, A', F', e', hx, hm⟩ := h
  exact ⟨ho.mono fun i e => .inl ((hT i).2 e), Mine ab A' F', ⟨hi, A', F', e', hx, fun i => Iff.rfl⟩, fun i e => (hm i e).imp_left (hT i).2⟩
theorem new_ar (w : World) : Calls Try.prog 6 #[] w fun e w' => ∃ ab T, e = .returned (.pointer (some ⟨ab, 0, none⟩)) ∧ Below w.heap.size w w' ∧ Ar w' w.heap.size ab T [] [] :=
  (new_any w.heap.size w (Nat.le_refl _)).mono fun e w' ⟨he, hb, hx⟩ => ⟨_, Mine w.heap.size none (.slice none 0 0), he, hb, Inv.nil, _, _, _, hx, fun i => Iff.rfl⟩
theorem put_ar (h : Ar w base ab T d f) (x : Int) (hB : base ≤ w.heap.size) (hm : d.length ≤ 5864062014806) :
    Calls Try.prog 7 #[.pointer (some ⟨ab, 0, none⟩), .int .i64 x] w fun r w' => r = .returned (.int .i64 (slotP d f)) ∧ Left w base ab T (putD d f x) f.dropLast w' := by
  obtain ⟨hi, A, F, e, hx, hT⟩ := h
  exact (put_any hx hi x hB hm).mono fun r w' ⟨hr, ht⟩ => ⟨hr, Left.of (hi.put x) hT ht⟩
theorem cut_ar (h : Ar w base ab T d f) (i : Int) (hB : base ≤ w.heap.size) (hm : d.length ≤ 5864062014806) :
    Calls Try.prog 9 #[.pointer (some ⟨ab, 0, none⟩), .int .i64 i] w fun r w' => r = .returned (.bool (gt d i).isSome) ∧ Left w base ab T (cutD d i) (cutF d f i) w' := by
  obtain ⟨hi, A, F, e, hx, hT⟩ := h
  exact (cut_any hx i hB hi.len hm).mono fun r w' ⟨hr, ht⟩ => ⟨hr, Left.of (hi.cut i) hT ht⟩
theorem set_ar (h : Ar w base ab T d f) (i x : Int) :
    Calls Try.prog 11 #[.pointer (some ⟨ab, 0, none⟩), .int .i64 i, .int .i64 x] w fun r w' => r = .returned (.bool (gt d i).isSome) ∧ Left w base ab T (setD d i x) f w' := by
  obtain ⟨hi, A, F, e, hx, hT⟩ := h
  exact (set_any hx i x).mono fun r w' ⟨hr, ht⟩ => ⟨hr, Left.of (hi.set i x) hT ht⟩
theorem get_ar (h : Ar w base ab T d f) (i : Int) :
    Calls Try.prog 13 #[.pointer (some ⟨ab, 0, none⟩), .int .i64 i] w fun e w' => e = .returned (.tuple #[.int .i64 ((gt d i).getD 0), .bool (gt d i).isSome]) ∧ w = w' := by
  obtain ⟨hi, A, F, e, hx, hT⟩ := h
  exact get_any hx i
theorem len_ar (h : Ar w base ab T d f) (hm : d.length ≤ 281474976710656) :
    Calls Try.prog 15 #[.pointer (some ⟨ab, 0, none⟩)] w fun e w' => e = .returned (.int .i64 (used d).length) ∧ Below w.heap.size w w' := by
  obtain ⟨hi, A, F, e, hx, hT⟩ := h
  exact (len_any hx hi.len hm _ (used_count hi)).mono fun e w' ⟨he, hw⟩ => ⟨he, hw ▸ (Below.refl _ w).drew⟩
theorem slots_ar (h : Ar w base ab T d f) :
    Calls Try.prog 16 #[.pointer (some ⟨ab, 0, none⟩)] w fun e w' => e = .returned (.int .i64 d.length) ∧ w = w' := by
  obtain ⟨hi, A, F, e, hx, hT⟩ := h
  exact slots_any hx
theorem used_ar (h : Ar w base ab T d f) (hm : d.length ≤ 8796093022208) :
    Calls Try.prog 18 #[.pointer (some ⟨ab, 0, none⟩)] w (URow (used d) w) := by
  obtain ⟨hi, A, F, e, hx, hT⟩ := h
  exact used_any hx hi hm
theorem Left.below (h : Left w base ab T d' f' w') (h0 : Ar w base ab T d f) (hB : base ≤ w.heap.size) : Below base w w' := h.1.below hB fun i e => (h0.low e).1
theorem Left.ar (h : Left w base ab T d f w') : ∃ T', Ar w' base ab T' d f := ⟨_, h.2.choose_spec.1⟩
end
set_option maxRecDepth 100000 in
set_option maxHeartbeats 1600000 in
theorem lives_any (w : World) : Calls Try.prog 19 #[] w fun e w' => e = .returned (.bool true) ∧ Below w.heap.size w w' := by
  have HN := Lib.hid (new_ar w)
  go_enter Try.func19, Try.ntmps19
  go_wp2_with (fail)
  refine HN.out.mono ?_
  rintro e w1 ⟨ab, T, rfl, hb1, h1⟩
  have s1 := hb1.size
  have HP1 := Lib.hid (put_ar h1 5 s1 (by simp))
  go_wp2_with (fail)
  refine HP1.out.mono ?_
  rintro e w2 ⟨rfl, hl2⟩
  have hb2 := hb1.trans (hl2.below h1 s1)
  obtain ⟨T2, h2⟩ := hl2.ar
  have s2 := hb2.size
  have e2 : putD [] [] 5 = [some 5] := rfl
  have e3 : slotP [] [] = 0 := rfl
  rw [e2] at h2
  rw [e3]
  have HP2 := Lib.hid (put_ar h2 6 s2 (by simp))
  clear HP1 HN hb1 hl2 h1
  go_wp2_with (fail)
  refine HP2.out.mono ?_
  rintro e w3 ⟨rfl, hl3⟩
  have hb3 := hb2.trans (hl3.below h2 s2)
  obtain ⟨T3, h3⟩ := hl3.ar
  have s3 := hb3.size
  have e4 : putD [some 5] ([] : List Nat).dropLast 6 = [some 5, some 6] := rfl
  have e5 : slotP [some 5] ([] : List Nat).dropLast = 1 := rfl
  rw [e4] at h3
  rw [e5]
  have HC := Lib.hid (cut_ar h3 0 s3 (by simp))
  clear HP2 hb2 hl3 h2
  go_wp2_with (fail)
  refine HC.out.mono ?_
  rintro e w4 ⟨rfl, hl4⟩
  have hb4 := hb3.trans (hl4.below h3 s3)
  obtain ⟨T4, h4⟩ := hl4.ar
  have s4 := hb4.size
  have e6 : cutD [some 5, some 6] 0 = [none, some 6] := rfl
  have e7 : cutF [some 5, some 6] ([] : List Nat).dropLast.dropLast 0 = [0] := rfl
  have e8 : (gt [some 5, some 6] 0).isSome = true := rfl
  rw [e6, e7] at h4
  rw [e8]
  have HP3 := Lib.hid (put_ar h4 7 s4 (by simp))
  clear HC hb3 hl4 h3
  go_wp2_with (fail)
  refine HP3.out.mono ?_
  rintro e w5 ⟨rfl, hl5⟩
  have hb5 := hb4.trans (hl5.below h4 s4)
  obtain ⟨T5, h5⟩ := hl5.ar
  have e9 : putD [none, some 6] [0] 7 = [some 7, some 6] := rfl
  have e10 : slotP [none, some 6] [0] = 0 := rfl
  have e11 : (used [some 7, some 6]).length = 2 := rfl
  rw [e9] at h5
  rw [e10]
  have hl := len_ar h5 (by simp)
  rw [e11] at hl
  have HL := Lib.hid hl
  have HB5 := Lib.hid hb5
  clear HP3 hb4 hl5 h4 hl hb5
  go_wp2_with (fail)
  refine HL.out.mono ?_
  rintro e w6 ⟨rfl, hb6⟩
  have HB6 := Lib.hid (HB5.out.trans (hb6.mono HB5.out.size))
  clear hb6 HL
  go_wp2_with (fail)
  go_ret
  exact ⟨rfl, HB6.out⟩
end Go.Proofs.Yteiggpdondbhoaa.arena
