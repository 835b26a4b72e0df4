/-
  An arena by what is in its slots and all that it may turn: its methods' contracts.
-/
import Derived.Test.YtaickhhbdbbmjaaAoQ
namespace Go.Proofs.Ytaickhhbdbbmjaa.aro
open Go.RowKit law bytes only flat ord obj
set_option linter.unusedVariables false

/-- an arena at block ab with the slots d, of which f are free; T is all that it may turn -/
def Ar (w : World) (base ab : Nat) (T : Nat → Prop) (d : List (Option Kept)) (f : List Nat) : Prop := Inv d f ∧ ∃ A F e, Ax w base ab A F d e f ∧ ∀ i, T i ↔ Mine ab A F i
/-- what a method leaves -/
def Left (w : World) (base ab : Nat) (T : Nat → Prop) (d : List (Option Kept)) (f : List Nat) (w' : World) : Prop := Only T w w' ∧ ∃ T', Ar w' base ab T' d f ∧ ∀ i, T' i → T i ∨ w.heap.size ≤ i
section
variable {w w' : World} {base ab : Nat} {T S : Nat → Prop} {d d' : List (Option Kept)} {f f' : List Nat}
theorem Ar.low (h : Ar w base ab T d f) {i : Nat} (hi : T i) : base ≤ i ∧ i < w.heap.size := by
  obtain ⟨_, A, F, e, hx, hT⟩ := h
  exact hx.lowM ((hT i).1 hi)
theorem Ar.inv (h : Ar w base ab T d f) : Inv d f := h.1
theorem Ar.below {B : Nat} (h : Ar w base ab T d f) (o : Below B w w') (hB : w.heap.size ≤ B) : Ar w' base ab T d f := by
  obtain ⟨hi, A, F, e, hx, hT⟩ := h
  exact ⟨hi, A, F, e, hx.below o hB, hT⟩
theorem Ar.only (h : Ar w base ab T d f) (o : Only S w w') (hS : ∀ i, T i → ¬ S i) : Ar w' base ab T d f := by
  obtain ⟨hi, A, F, e, hx, hT⟩ := h
  exact ⟨hi, A, F, e, hx.only o (fun i e => hS i ((hT i).2 e)), hT⟩
theorem Left.of {A : Option Addr} {F : Value} (hi : Inv d f) (hT : ∀ i, T i ↔ Mine ab A F i) (h : Turned w base ab A F d f w') : Left w base ab T d f w' := by
  obtain ⟨ho, A', F', e', hx, hm⟩ := h
  exact ⟨ho.mono fun i e => .inl ((hT i).2 e), Mine ab A' F', ⟨hi, A', F', e', hx, fun i => Iff.rfl⟩, fun i e => (hm i e).imp_left (hT i).2⟩
theorem new_ar (w : World) : Calls Try.prog 21 #[] w fun e w' => ∃ ab T, e = .returned (.pointer (some ⟨ab, 0, none⟩)) ∧ Below w.heap.size w w' ∧ Ar w' w.heap.size ab T [] [] :=
  (new_any w.heap.size w (Nat.le_refl _)).mono fun e w' ⟨he, hb, hx⟩ => ⟨_, Mine w.heap.size none (.slice none 0 0), he, hb, Inv.nil, _, _, _, hx, fun i => Iff.rfl⟩
theorem put_ar (h : Ar w base ab T d f) (x : Kept) (hB : base ≤ w.heap.size) (hm : d.length ≤ 2513169434916) :
    Calls Try.prog 27 #[.pointer (some ⟨ab, 0, none⟩), kV x] w fun r w' => r = .returned (.int .i64 (slotP d f)) ∧ Left w base ab T (putD d f x) f.dropLast w' := by
  obtain ⟨hi, A, F, e, hx, hT⟩ := h
  exact (put_any hx hi x hB hm).mono fun r w' ⟨hr, ht⟩ => ⟨hr, Left.of (hi.put x) hT ht⟩
theorem cut_ar (h : Ar w base ab T d f) (i : Int) (hB : base ≤ w.heap.size) (hm : d.length ≤ 2513169434916) :
    Calls Try.prog 24 #[.pointer (some ⟨ab, 0, none⟩), .int .i64 i] w fun r w' => r = .returned (.bool (gt d i).isSome) ∧ Left w base ab T (cutD d i) (cutF d f i) w' := by
  obtain ⟨hi, A, F, e, hx, hT⟩ := h
  exact (cut_any hx i hB hi.len hm).mono fun r w' ⟨hr, ht⟩ => ⟨hr, Left.of (hi.cut i) hT ht⟩
theorem get_ar (h : Ar w base ab T d f) (i : Int) :
    Calls Try.prog 41 #[.pointer (some ⟨ab, 0, none⟩), .int .i64 i] w fun e w' => e = .returned (.tuple #[kV (kx (gt d i)), .bool (gt d i).isSome]) ∧ Below w.heap.size w w' := by
  obtain ⟨hi, A, F, e, hx, hT⟩ := h
  exact get_any hx i
theorem Left.below (h : Left w base ab T d' f' w') (h0 : Ar w base ab T d f) (hB : base ≤ w.heap.size) : Below base w w' := h.1.below hB fun i e => (h0.low e).1
theorem Left.ar (h : Left w base ab T d f w') : ∃ T', Ar w' base ab T' d f := ⟨_, h.2.choose_spec.1⟩
end
end Go.Proofs.Ytaickhhbdbbmjaa.aro
