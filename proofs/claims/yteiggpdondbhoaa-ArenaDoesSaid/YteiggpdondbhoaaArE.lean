/-
  What the law ArenaDoes keeps from deed to deed.
-/
import Derived.Test.YteiggpdondbhoaaArD
import Derived.Test.YteiggpdondbhoaaArY
namespace Go.Proofs.Yteiggpdondbhoaa.arenaDoes
open Go.RowKit law bytes only flat arena came
open Go.ChangeShapes Go.WideShapes Go.Deep Go.ChangeAt
set_option linter.unusedVariables false

/-- the arena has the slots d2, f2; the document's own, in a variable at rb, still d and f; the deed is a variable at db -/
structure Md (w : World) (ab rb db : Nat) (T : Nat → Prop) (L F : Value) (d : List (Option Int)) (f : List Nat) (d2 : List (Option Int)) (f2 : List Nat) (x : Int × Int × Int) (W : World) : Prop where
  ar : Ar W w.heap.size ab T d2 f2
  br : Blk W rb 28 #[L, F]
  bd : Blk W db 30 #[.int .i64 x.1, .int .i64 x.2.1, .int .i64 x.2.2]
  ne : rb ≠ db
  nr : ¬ T rb
  nd : ¬ T db
  lr : w.heap.size ≤ rb
  rf : Rf W (fun i => T i ∨ i = rb) L F d f
  below : Below w.heap.size w W
/-- where the law stands between two deeds -/
def P (w : World) (ab rb k : Nat) (W : World) : Prop := ∃ T L F d f, Ar W w.heap.size ab T d f ∧ Blk W rb 28 #[L, F] ∧ ¬ T rb ∧ w.heap.size ≤ rb ∧ Rf W (fun i => T i ∨ i = rb) L F d f ∧ Below w.heap.size w W ∧ d.length ≤ k
section
variable {w W W2 W3 : World} {ab rb db k : Nat} {T : Nat → Prop} {L F : Value} {d d2 : List (Option Int)} {f f2 : List Nat} {x : Int × Int × Int}
theorem Md.on (h : Md w ab rb db T L F d f d2 f2 x W) (o : Below W.heap.size W W2) : Md w ab rb db T L F d f d2 f2 x W2 :=
  ⟨h.ar.below o (Nat.le_refl _), h.br.below o h.br.lt, h.bd.below o h.bd.lt, h.ne, h.nr, h.nd, h.lr, h.rf.below o, h.below.trans (o.mono h.below.size)⟩
theorem Md.drew (h : Md w ab rb db T L F d f d2 f2 x W) : Md w ab rb db T L F d f d2 f2 x W.drew := h.on ((Below.refl _ _).drew)
theorem Md.drewN (h : Md w ab rb db T L F d f d2 f2 x W) (n : Nat) : Md w ab rb db T L F d f d2 f2 x (W.drewN n) := h.on (below_drewN' (Below.refl _ _) n)
theorem P.start {T : Nat → Prop} (h1 : Ar W w.heap.size ab T [] []) (hb : Below w.heap.size w W) : P w ab W.heap.size 0 (W.alloc (.cells #[.slice none 0 0, .slice none 0 0] 28)) := by
  have ha : Below W.heap.size W (W.alloc (.cells #[.slice none 0 0, .slice none 0 0] 28)) := (Below.refl _ W).alloc (Nat.le_refl _) _
  exact ⟨T, _, _, [], [], h1.below ha (Nat.le_refl _), Blk.new _ _ _, fun e => by have := (h1.low e).2; omega, hb.size, Rf.nil, hb.trans (ha.mono hb.size), Nat.le_refl _⟩
theorem P.below (h : P w ab rb k W) : Below w.heap.size w W := by
  obtain ⟨T, L, F, d, f, h1, h2, h3, h4, h5, h6, h7⟩ := h
  exact h6
/-- the deed is laid -/
theorem P.deed (h : P w ab rb k W) (x : Int × Int × Int) : ∃ T A c A' c' d f, d.length ≤ k ∧ d.length ≤ c ∧ f.length ≤ c' ∧ Md w ab rb W.heap.size T (.slice A d.length c) (.slice A' f.length c') d f d f x (W.alloc (.cells #[.int .i64 x.1, .int .i64 x.2.1, .int .i64 x.2.2] 30)) := by
  obtain ⟨T, L, F, d, f, h1, h2, h3, h4, h5, h6, h7⟩ := h
  have ha : Below W.heap.size W (W.alloc (.cells #[.int .i64 x.1, .int .i64 x.2.1, .int .i64 x.2.2] 30)) := (Below.refl _ W).alloc (Nat.le_refl _) _
  have h5' := h5
  obtain ⟨A, c, A', c', rfl, hc, rfl, hc', -, -⟩ := h5
  have := h2.lt
  exact ⟨T, A, c, A', c', d, f, h7, hc, hc', h1.below ha (Nat.le_refl _), h2.alloc _, Blk.new _ _ _, by omega, h3, fun e => by have := (h1.low e).2; omega, h4, h5'.below ha, h6.trans (ha.mono h6.size)⟩
/-- behind a method of the arena -/
theorem Md.left {d3 : List (Option Int)} {f3 : List Nat} (h : Md w ab rb db T L F d f d2 f2 x W) (hl : arena.Left W w.heap.size ab T d3 f3 W2) : ∃ T2, Md w ab rb db T2 L F d f d3 f3 x W2 := by
  have hb := hl.below h.ar h.below.size
  obtain ⟨ho, T2, ha, hm⟩ := hl
  have h1 := h.br.lt
  have h2 := h.bd.lt
  refine ⟨T2, ha, Blk.only h.br ho h.nr, Blk.only h.bd ho h.nd, h.ne, fun e => ?_, fun e => ?_, h.lr, ?_, h.below.trans hb⟩
  · rcases hm _ e with e | e
    · exact h.nr e
    · omega
  · rcases hm _ e with e | e
    · exact h.nd e
    · omega
  · refine h.rf.step (ho.mono fun i e => .inl (.inl e)) fun i hi hn e => ?_
    rcases e with e | e
    · rcases hm i e with e | e
      · exact hn (.inl e)
      · omega
    · exact hn (.inr e)
theorem Md.high (h : Md w ab rb db T L F d f d2 f2 x W) : ∀ i, (T i ∨ i = rb) → i < W.heap.size := fun i hi => by
  rcases hi with hi | rfl
  · exact (h.ar.low hi).2
  · exact h.br.lt
/-- behind the document's own: what it gave back is laid -/
theorem Md.laid {r : Value} {e : Ending} (h : Md w ab rb db T L F d f d2 f2 x W) (hr : RPost W (fun i => T i ∨ i = rb) d2 f2 r e W2) :
    ∃ A c A' c', e = .returned (.tuple #[.agg #[.slice A d2.length c, .slice A' f2.length c'], r]) ∧ d2.length ≤ c ∧ f2.length ≤ c' ∧ W2.cell? ⟨rb, 0, none⟩ = some L ∧ W2.cell? ⟨rb, 1, none⟩ = some F ∧ W2.frozen? ⟨rb, 0, none⟩ = false ∧ W2.frozen? ⟨rb, 1, none⟩ = false ∧
      Md w ab rb db T (.slice A d2.length c) (.slice A' f2.length c') d2 f2 d2 f2 x ((W2.setCell ⟨rb, 0, none⟩ (.slice A d2.length c)).setCell ⟨rb, 1, none⟩ (.slice A' f2.length c')) := by
  obtain ⟨L2, F2, he, hrf, hb⟩ := hr
  have h2 := h.on hb
  have hrf' := hrf
  obtain ⟨A, c, A', c', rfl, hc, rfl, hc', -, -⟩ := hrf
  have ho : Only (· = rb) W2 ((W2.setCell ⟨rb, 0, none⟩ (.slice A d2.length c)).setCell ⟨rb, 1, none⟩ (.slice A' f2.length c')) := Only.setCell (S := (· = rb)) (p := ⟨rb, 1, none⟩) (Only.setCell (S := (· = rb)) (p := ⟨rb, 0, none⟩) (Only.refl _ _) (.inl rfl) _) (.inl rfl) _
  refine ⟨A, c, A', c', he, hc, hc', h2.br.cell 0, h2.br.cell 1, h2.br.frozen 0, h2.br.frozen 1, h2.ar.only ho fun i hi e => h.nr (by rw [← e]; exact hi), Blk.two h2.br _ _, Blk.only h2.bd ho fun e => h.ne e.symm, h.ne, h.nr, h.nd, h.lr,
    hrf'.step (ho.mono fun i e => .inl (.inr e)) fun i hi hn e => hn e, Below.one (Below.one h2.below h.lr _) h.lr _⟩
/-- a deed is done -/
theorem Md.done (h : Md w ab rb db T L F d f d f x W) (hk : d.length ≤ k) : P w ab rb k W := ⟨T, L, F, d, f, h.ar, h.br, h.nr, h.lr, h.rf, h.below, hk⟩
/-! ### the calls -/
theorem Md.put (h : Md w ab rb db T L F d f d f x W) (y : Int) (hm : d.length ≤ 5864062014804) : Calls Try.prog 7 #[.pointer (some ⟨ab, 0, none⟩), .int .i64 y] W fun e w' => e = .returned (.int .i64 (slotP d f)) ∧ ∃ T2, Md w ab rb db T2 L F d f (putD d f y) f.dropLast x w' :=
  (put_ar h.ar y h.below.size (by omega)).mono fun e w' ⟨he, hl⟩ => ⟨he, h.left hl⟩
theorem Md.cut (h : Md w ab rb db T L F d f d f x W) (i : Int) (hm : d.length ≤ 5864062014804) : Calls Try.prog 9 #[.pointer (some ⟨ab, 0, none⟩), .int .i64 i] W fun e w' => e = .returned (.bool (gt d i).isSome) ∧ ∃ T2, Md w ab rb db T2 L F d f (cutD d i) (cutF d f i) x w' :=
  (cut_ar h.ar i h.below.size (by omega)).mono fun e w' ⟨he, hl⟩ => ⟨he, h.left hl⟩
theorem Md.set (h : Md w ab rb db T L F d f d f x W) (i y : Int) : Calls Try.prog 11 #[.pointer (some ⟨ab, 0, none⟩), .int .i64 i, .int .i64 y] W fun e w' => e = .returned (.bool (gt d i).isSome) ∧ ∃ T2, Md w ab rb db T2 L F d f (setD d i y) f x w' :=
  (set_ar h.ar i y).mono fun e w' ⟨he, hl⟩ => ⟨he, h.left hl⟩
theorem Md.rput (h : Md w ab rb db T L F d f d2 f2 x W) (hi : Inv d f) (y : Int) (hm : d.length ≤ 5864062014804) : Calls Try.prog 8 #[.agg #[L, F], .int .i64 y] W (RPost W (fun i => T i ∨ i = rb) (putD d f y) f.dropLast (.int .i64 (slotP d f))) := rput_any h.rf hi y h.high hm
theorem Md.rcut (h : Md w ab rb db T L F d f d2 f2 x W) (hi : Inv d f) (i : Int) (hm : d.length ≤ 5864062014804) : Calls Try.prog 10 #[.agg #[L, F], .int .i64 i] W (RPost W (fun i => T i ∨ i = rb) (cutD d i) (cutF d f i) (.bool (gt d i).isSome)) := rcut_any h.rf hi i h.high (by omega)
theorem Md.rset (h : Md w ab rb db T L F d f d2 f2 x W) (i y : Int) (hm : d.length ≤ 5864062014804) : Calls Try.prog 12 #[.agg #[L, F], .int .i64 i, .int .i64 y] W (RPost W (fun i => T i ∨ i = rb) (setD d i y) f (.bool (gt d i).isSome)) := rset_any h.rf i y h.high (by omega)
theorem Md.inv (h : Md w ab rb db T L F d f d2 f2 x W) : Inv d2 f2 := h.ar.inv
theorem Md.get (h : Md w ab rb db T L F d f d2 f2 x W) (i : Int) : Calls Try.prog 13 #[.pointer (some ⟨ab, 0, none⟩), .int .i64 i] W fun e w' => e = .returned (.tuple #[.int .i64 ((gt d2 i).getD 0), .bool (gt d2 i).isSome]) ∧ W = w' := get_ar h.ar i
theorem Md.rget {A A' : Option Addr} {c c' : Nat} (h : Md w ab rb db T (.slice A d.length c) (.slice A' f.length c') d f d2 f2 x W) (i : Int) : Calls Try.prog 14 #[.agg #[.slice A d.length c, .slice A' f.length c'], .int .i64 i] W fun e w' =>
    e = .returned (.tuple #[.int .i64 ((gt d i).getD 0), .bool (gt d i).isSome]) ∧ Md w ab rb db T (.slice A d.length c) (.slice A' f.length c') d f d2 f2 x w' :=
  (rget_any h.rf.sl.1 i (Nat.le_refl _)).mono fun e w' ⟨he, hb⟩ => ⟨he, h.on hb⟩
/-- which slots are used, as the law lays it, .. -/
theorem Md.len (h : Md w ab rb db T L F d f d2 f2 x W) (hm : d2.length ≤ 5864062014806) {A : Option Addr} (hs : Sl W W.heap.size A (fv (used d2))) : Calls Try.prog 15 #[.pointer (some ⟨ab, 0, none⟩)] W fun e w' =>
    e = .returned (.int .i64 (used d2).length) ∧ Md w ab rb db T L F d f d2 f2 x w' ∧ Sl w' w'.heap.size A (fv (used d2)) :=
  (len_ar h.ar (by omega)).mono fun e w' ⟨he, hb⟩ => ⟨he, h.on hb, hs.on hb⟩
theorem Md.slots (h : Md w ab rb db T L F d f d2 f2 x W) {A : Option Addr} (hs : Sl W W.heap.size A (fv (used d2))) : Calls Try.prog 16 #[.pointer (some ⟨ab, 0, none⟩)] W fun e w' =>
    e = .returned (.int .i64 d2.length) ∧ Md w ab rb db T L F d f d2 f2 x w' ∧ Sl w' w'.heap.size A (fv (used d2)) :=
  (slots_ar h.ar).mono fun e w' ⟨he, hw⟩ => by subst hw; exact ⟨he, h, hs⟩
theorem Md.used_ (h : Md w ab rb db T L F d f d2 f2 x W) (hm : d2.length ≤ 5864062014806) {A : Option Addr} (hs : Sl W W.heap.size A (fv (used d2))) : Calls Try.prog 18 #[.pointer (some ⟨ab, 0, none⟩)] W fun e w' =>
    ∃ A1 c1, e = .returned (.slice A1 (used d2).length c1) ∧ Md w ab rb db T L F d f d2 f2 x w' ∧ Sl w' w'.heap.size A (fv (used d2)) ∧ Sl w' w'.heap.size A1 (fv (used d2)) :=
  (used_ar h.ar (by omega)).mono fun e w' ⟨A1, c1, he, h1, hb⟩ => ⟨A1, c1, he, h.on hb, hs.on hb, h1⟩
theorem Md.ints {A A1 : Option Addr} {n c c1 : Nat} (h : Md w ab rb db T L F d f d2 f2 x W) (hn : (used d2).length = n) (hm : d2.length ≤ 5864062014806) (hs : Sl W W.heap.size A (fv (used d2))) (hs1 : Sl W W.heap.size A1 (fv (used d2))) : Calls Try.prog 17 #[.slice A1 n c1, .slice A n c] W fun e w' =>
    e = .returned (.bool true) ∧ Md w ab rb db T L F d f d2 f2 x w' := by
  subst hn
  have := usedTo_le d2 d2.length
  exact (ints_same A1 A (used d2) c1 c _ _ W (by unfold used; omega) hs1 hs).mono fun e w' ⟨he, hb⟩ => ⟨he, h.on hb⟩
end
/-- behind what is done by a deed's kind: what both told, and both arenas -/
def Sw (w : World) (ab rb db k : Nat) (x : Int × Int × Int) (s7 s8 s9 s10 : Value) (W : World) : Prop := ∃ (n : Int) (b : Bool) (T : Nat → Prop) (A : Option Addr) (c : Nat) (A' : Option Addr) (c' : Nat) (d : List (Option Int)) (f : List Nat),
  s7 = .int .i64 n ∧ s8 = .int .i64 n ∧ s9 = .bool b ∧ s10 = .bool b ∧ d.length ≤ k + 1 ∧ d.length ≤ c ∧ f.length ≤ c' ∧ Md w ab rb db T (.slice A d.length c) (.slice A' f.length c') d f d f x W
/-- where the law stands at its test: the used slots' row -/
def Q1 (w : World) (ab rb db : Nat) (T : Nat → Prop) (L F : Value) (d : List (Option Int)) (f : List Nat) (x : Int × Int × Int) (A : Option Addr) (W : World) : Prop := Md w ab rb db T L F d f d f x W ∧ Sl W W.heap.size A (fv (used d))
/-- .. and what Used told -/
def Q2 (w : World) (ab rb db : Nat) (T : Nat → Prop) (L F : Value) (d : List (Option Int)) (f : List Nat) (x : Int × Int × Int) (A A1 : Option Addr) (W : World) : Prop := Q1 w ab rb db T L F d f x A W ∧ Sl W W.heap.size A1 (fv (used d))
section
variable {w W : World} {ab rb db k : Nat} {T : Nat → Prop} {L F : Value} {d : List (Option Int)} {f : List Nat} {x : Int × Int × Int} {A A1 : Option Addr}
theorem Q1.drew (h : Q1 w ab rb db T L F d f x A W) : Q1 w ab rb db T L F d f x A W.drew := ⟨h.1.drew, h.2⟩
theorem Q1.drewN (h : Q1 w ab rb db T L F d f x A W) (n : Nat) : Q1 w ab rb db T L F d f x A (W.drewN n) := ⟨h.1.drewN n, h.2⟩
theorem Q2.drew (h : Q2 w ab rb db T L F d f x A A1 W) : Q2 w ab rb db T L F d f x A A1 W.drew := ⟨h.1.drew, h.2⟩
theorem Q2.drewN (h : Q2 w ab rb db T L F d f x A A1 W) (n : Nat) : Q2 w ab rb db T L F d f x A A1 (W.drewN n) := ⟨h.1.drewN n, h.2⟩
end
end Go.Proofs.Yteiggpdondbhoaa.arenaDoes
