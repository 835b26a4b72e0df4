/-
  Several texts in one.
-/
import Derived.RangeFuncNested
import Derived.RangeFuncBound
import Derived.RangeFuncCalls
import Derived.RangeFuncLeaves
import Derived.Shelf.Abstract
import Derived.Shelf.RegionOpen
import Derived.WalkKit
import Derived.OwnWalkIn
import Derived.TacticsInMore
import Derived.LoopNIn
import Derived.LoopIn
import Derived.Test.YtaamlidflfdjkaaGLib
/-
  Program-free: a range over a function whose rounds are told of what they are handed, and may turn blocks of their own and what is new since the first of them: the iterator's contract ('Hands'), the statement's law ('range_told'); what a turn of a loop's record leaves.
-/
namespace Go.Proofs.Ytaamlidflfdjkaa.told
open Go.RowKit bytes only
set_option linter.unusedVariables false

/-- what a round may turn: the caller's blocks C, and what is new since B -/
def Mine (C : Nat → Prop) (B : Nat) (i : Nat) : Prop := C i ∨ B ≤ i
/-- an iterator's contract: it reads T; of each thing that it hands on Pr is told; S of all -/
def Hands {α : Type} (P : Program) (n g : Nat) (lb : Array Value) (encs : α → Array Value) (T : Nat → Prop) (Pr : List α → α → World → Prop) (S : List α → Prop) (w : World) : Prop :=
  ∀ (l : Nat) (C : Nat → Prop) (J Jx : Nat → List α → World → Prop) (W : World), Below w.heap.size w W → (∀ i, C i → ¬ T i) → (∀ i, C i → i < W.heap.size) →
    (∀ B, AbidesFrom W.heap.size (J B)) → (∀ B, AbidesFrom W.heap.size (Jx B)) →
    (∀ B pre x W1, J B pre W1 → Pr pre x W1 → YieldAt Fence.wide (n - 1) P l (encs x) W1 fun e W' =>
      (e = .returned (.bool true) ∧ J B (pre ++ [x]) W' ∧ Only (Mine C B) W1 W') ∨ (e = .returned (.bool false) ∧ Jx B (pre ++ [x]) W')) →
    (∀ W1, Below W.heap.size W W1 → J W1.heap.size [] W1) →
    CallsIn Fence.wide n P g (#[.func (.yield l) #[] #[]] ++ lb) W fun e W' => (∃ v, e = .returned v) ∧ ((∃ B xs, S xs ∧ J B xs W') ∨ ∃ B pre, Jx B pre W')
/-- a loop's record is another one -/
def Turn (l : Nat) (W W2 : World) : Prop := ∃ o o', W.heap[l]? = some o ∧ o.isCells = false ∧ W2 = W.putObj l o'
section
variable {l : Nat} {W W2 : World}
theorem Turn.lt (h : Turn l W W2) : l < W.heap.size := by
  obtain ⟨o, o', ho, -⟩ := h
  exact (Array.getElem?_eq_some_iff.1 ho).1
theorem Turn.size (h : Turn l W W2) : W2.heap.size = W.heap.size := by
  obtain ⟨o, o', ho, -, rfl⟩ := h
  exact World.putObj_size
theorem Turn.grown (h : Turn l W W2) : W.grownBy W2 (some l) := by
  obtain ⟨o, o', ho, -, rfl⟩ := h
  exact grownBy_putObj' W l o'
theorem Turn.only (h : Turn l W W2) : Only (· = l) W W2 := Only.of_grown h.grown fun g e => by
  injection e with e
  exact .inl e.symm
theorem Turn.rows (h : Turn l W W2) : ∀ r, some l = some r → ∃ o : Obj, W.heap[r]? = some o ∧ o.isCells = false := fun r e => by
  obtain ⟨o, o', ho, hc, -⟩ := h
  injection e with e
  subst e
  exact ⟨o, ho, hc⟩
theorem Turn.cell (h : Turn l W W2) {a : Addr} {v : Value} (hc : W.cell? a = some v) : W2.cell? a = some v := cell_kept hc h.grown h.rows
end
/-- a row of the call's own lies in cells: what turns no cells leaves it -/
theorem own_kept {W W2 : World} {row : Option Nat} {base k n : Nat} {e : TypeId} {v : Value} {xs : List Value} (h : W.ownsRow base e k v n xs) (hg : W.grownBy W2 row) (hr : ∀ r, row = some r → ∃ o : Obj, W.heap[r]? = some o ∧ o.isCells = false) : W2.ownsRow base e k v n xs := by
  refine own_only h (S := fun i => row = some i) (Only.of_grown hg fun g e => .inl e) fun g e e2 => ?_
  obtain ⟨o, ho, hc⟩ := hr g e2
  rcases h.2 with ⟨h1, -⟩ | ⟨g', cap, cur, hv, -, hh, -⟩
  · rw [h1] at e; cases e
  · rw [hv] at e
    injection e with e
    simp only at e
    subst e
    rw [hh] at ho
    cases ho
    cases hc
theorem blk_kept {W W2 : World} {row : Option Nat} {g : Nat} {t : TypeId} {cs : Array Value} (h : Blk W g t cs) (hg : W.grownBy W2 row) (hr : ∀ r, row = some r → ∃ o : Obj, W.heap[r]? = some o ∧ o.isCells = false) : Blk W2 g t cs :=
  h.keep (hg.block g h.lt fun e => by
    obtain ⟨o, ho, hc⟩ := hr g e.symm
    rw [show W.heap[g]? = _ from h] at ho
    cases ho
    cases hc)
theorem sl_kept {W W2 : World} {row : Option Nat} {B : Nat} {A : Option Addr} {xs : List Value} (h : Sl W B A xs) (hg : W.grownBy W2 row) (hr : ∀ r, row = some r → ∃ o : Obj, W.heap[r]? = some o ∧ o.isCells = false) : Sl W2 B A xs := fun j u hj => by
  obtain ⟨a, e, hb, hc⟩ := h j u hj
  exact ⟨a, e, hb, cell_kept hc hg hr⟩
/-- blocks of different types are different ones -/
theorem own_types {W : World} {base k n base' k' n' : Nat} {e e' : TypeId} {v v' : Value} {xs xs' : List Value} (h : W.ownsRow base e k v n xs) (h' : W.ownsRow base' e' k' v' n' xs') (hne : e ≠ e') {g : Nat} (hg : v.ownBlock = some g) : v'.ownBlock ≠ some g := fun hg' => by
  rcases h.2 with ⟨h1, -⟩ | ⟨g1, c1, cur1, hv1, -, hh1, -⟩
  · rw [h1] at hg; cases hg
  rcases h'.2 with ⟨h2, -⟩ | ⟨g2, c2, cur2, hv2, -, hh2, -⟩
  · rw [h2] at hg'; cases hg'
  rw [hv1] at hg
  rw [hv2] at hg'
  injection hg with hg
  injection hg' with hg'
  simp only at hg hg'
  subst hg hg'
  rw [hh1] at hh2
  injection hh2 with hh2
  injection hh2 with _ e2
  exact hne e2
theorem blk_types {W : World} {base k n g : Nat} {e t : TypeId} {v : Value} {xs : List Value} {cs : Array Value} (h : W.ownsRow base e k v n xs) (h' : Blk W g t cs) (hne : e ≠ t) : v.ownBlock ≠ some g := fun hg => by
  rcases h.2 with ⟨h1, -⟩ | ⟨g1, c1, cur1, hv1, -, hh1, -⟩
  · rw [h1] at hg; cases hg
  rw [hv1] at hg
  injection hg with hg
  simp only at hg
  subst hg
  rw [show W.heap[g1]? = _ from h'] at hh1
  injection hh1 with hh1
  injection hh1 with _ e2
  exact hne e2.symm

/-- how a round's body may be left -/
def Out {α : Type} (B0 : Nat) (M : Nat → Prop) (I : List α → World → Prop) (Ix : Code → List α → World → Prop) (xs : List α) (W : World) : Exit → Act → World → Prop
  | .normal, _, W' => KeepsFrom B0 W W' ∧ Only M W W' ∧ I xs W'
  | .ret, _, W' => KeepsFrom B0 W W' ∧ Ix .ret xs W'
  | .exit id, _, W' => KeepsFrom B0 W W' ∧ Ix (.exit id) xs W'
  | _, _, _ => False
/-- the record of a loop that began in world w -/
def rec0 (w : World) (fn : FuncId) (tmps : Array Value) (ps : Array Tmp) (assign body : Code) (st : LoopState) (pe : Option Code) : Obj :=
  .loop { state := st, pending := pe, fn := fn, tmps := tmps, params := ps, assign := assign, body := body, defers := w.heap.size }
section
variable {P : Program} {n : Nat}
theorem mine_turn {C : Nat → Prop} {B l : Nat} {W W2 : World} (h : Turn l W W2) : Only (Mine (fun i => C i ∨ i = l) B) W W2 := h.only.mono fun i e => .inl (.inl (.inr e))
theorem range_told {α : Type} {g : Operand} {ps : Array Tmp} {assign body : Code} {Q : Exit → Act → World → Prop} {a : Act} {w w0 : World} {gf : Nat} {lb : Array Value} {encs : α → Array Value} {T : Nat → Prop} {Pr : List α → α → World → Prop} {S : List α → Prop}
    (hg : a.eval g = .func (.func gf) #[] lb) (eg : ∀ args w, (callFunc gf args).run P w = .ok (.enter gf args) w)
    (hseq : Hands P (n - 1) gf lb encs T Pr S w0) (hb0 : Below w0.heap.size w0 w) (hT : ∀ i, T i → i < w.heap.size) (hps : ∀ x, (encs x).size = ps.size)
    (C : Nat → Prop) (hC : ∀ i, C i → ¬ T i) (hCl : ∀ i, C i → i < w.heap.size) (I : Nat → List α → World → Prop) (Ix : Nat → Code → List α → World → Prop) (hI : ∀ B, OwnFrom w.heap.size (I B)) (hIx : ∀ B c, OwnFrom w.heap.size (Ix B c))
    (h0 : ∀ W1, Below w.heap.size w W1 → I W1.heap.size [] W1)
    (hround : ∀ B l pre x W, w.heap.size ≤ l → I B pre W → Pr pre x W →
      assign.wpIn (Fence.wide.inRound l) (n - 1 - 1) P (Exit.then (fun a' W' => (KeepsFrom w.heap.size W W' ∧ Only (Mine C B) W W') ∧ ∀ W2, Turn l W' W2 →
        body.wpIn (Fence.wide.inRound l) (n - 1 - 1) P (Out w.heap.size (Mine C B) (I B) (Ix B) (pre ++ [x]) W2) a' W2) (fun _ _ _ => False))
        { tmps := (ps.zip (encs x)).foldl (fun t (p, v) => t.setIfInBounds p v) a.tmps, defers := [] } W)
    (hdone : ∀ B D xs W, w.heap.size ≤ D → S xs → I B xs W → W.heap[D]? = some (.deferred (some [])) → Q .normal { a with defers := { target := .collected D, args := #[] } :: a.defers } W)
    (hstop : ∀ B D c pre W, w.heap.size ≤ D → Ix B c pre W → W.heap[D]? = some (.deferred (some [])) → c.wpIn Fence.wide n P Q { a with defers := { target := .collected D, args := #[] } :: a.defers } W) :
    (Code.rangeFunc g ps assign body).wpIn Fence.wide n P Q a w := by
  refine wpIn_rangeFunc fun fn hfn => ?_
  obtain ⟨l, hl⟩ : ∃ l, l = w.heap.size + 1 := ⟨_, rfl⟩
  obtain ⟨R, hR⟩ : ∃ R, R = rec0 w fn a.tmps ps assign body := ⟨_, rfl⟩
  have hRc : ∀ st pe, (R st pe).isCells = false := fun st pe => by rw [hR]; rfl
  have hRw : ∀ st pe, (R st pe).isWalk = false := fun st pe => by rw [hR]; rfl
  obtain ⟨V, hV⟩ : ∃ V, V = (w.alloc (.deferred (some []))).alloc (R .ready none) := ⟨_, rfl⟩
  have hVl : V.heap[l]? = some (R .ready none) := by
    have h := World.alloc_heap_new (w.alloc (.deferred (some []))) (R .ready none)
    rw [World.size_alloc] at h
    rw [hV, hl]
    exact h
  have hVd : V.heap[w.heap.size]? = some (.deferred (some [])) := by
    rw [hV]
    exact (Below.heap_alloc _ _ _ (by simp)).trans (World.alloc_heap_new w _)
  have hbV : Below w.heap.size w V := by rw [hV]; exact ((Below.refl _ w).alloc (Nat.le_refl _) _).alloc (by simp) _
  have hsV : V.heap.size = w.heap.size + 2 := by rw [hV]; simp
  have henter : (Instr.enterLoop fn a.tmps ps assign body Fence.wide.round).run P w = .ok (l, [{ target := .collected w.heap.size, args := #[] }]) V := by
    rw [hV, hR, hl]
    exact run_enterLoop_outer fn a.tmps ps assign body
  refine ⟨l, _, V, { target := .fn (.func gf) lb, args := #[.func (.yield l) #[] #[]] }, V, gf, #[.func (.yield l) #[] #[]] ++ lb, V, henter, ?_, fun _ _ => trivial, ?_, fun h => ?_, ?_⟩
  · simp only [resolve, hg]
    simp [go_sem]
  · simp [invoke, go_sem, eg]
  · cases h
  -- between two rounds: the caller's own, the record and the block of deferred calls as they were laid
  obtain ⟨J, hJ⟩ : ∃ J : Nat → List α → World → Prop, J = fun B pre W => I B pre W ∧ W.heap[l]? = some (R .ready none) ∧ W.heap[w.heap.size]? = some (.deferred (some [])) := ⟨_, rfl⟩
  obtain ⟨Jx, hJx⟩ : ∃ Jx : Nat → List α → World → Prop, Jx = fun B pre W => ∃ c, Ix B c pre W ∧ W.heap[l]? = some (R .done (some c)) ∧ W.heap[w.heap.size]? = some (.deferred (some [])) := ⟨_, rfl⟩
  have hwk : ∀ {A : World} {row : Option Nat}, (∀ r, row = some r → V.heap.size ≤ r ∧ ∃ o : Obj, A.heap[r]? = some o ∧ o.isWalk = true) → ∀ r, row = some r → w.heap.size ≤ r ∧ ∃ o : Obj, A.heap[r]? = some o ∧ o.isCells = false := fun h r e => by
    obtain ⟨h1, o, h2, h3⟩ := h r e
    exact ⟨by omega, o, h2, Obj.not_cells_of_walk h3⟩
  have hcall := hseq l (fun i => C i ∨ i = l) J Jx V (hb0.trans (hbV.mono hb0.size)) (fun i e ht => by
      rcases e with e | e
      · exact hC i e ht
      · have := hT i ht; omega)
    (fun i e => by
      rcases e with e | e
      · have := hCl i e; omega
      · omega)
    (fun B s X Y row hs hgr hr => by
      rw [hJ] at hs ⊢
      exact ⟨hI B s X Y row hs.1 hgr (hwk hr), (grownBy_keeps hgr (fun r e => (hr r e).2) hs.2.1 (hRw _ _)).trans hs.2.1, (grownBy_keeps hgr (fun r e => (hr r e).2) hs.2.2 rfl).trans hs.2.2⟩)
    (fun B s X Y row hs hgr hr => by
      rw [hJx] at hs ⊢
      obtain ⟨c, h1, h2, h3⟩ := hs
      exact ⟨c, hIx B c s X Y row h1 hgr (hwk hr), (grownBy_keeps hgr (fun r e => (hr r e).2) h2 (hRw _ _)).trans h2, (grownBy_keeps hgr (fun r e => (hr r e).2) h3 rfl).trans h3⟩)
    ?round (fun W1 hW1 => by
      rw [hJ]
      exact ⟨h0 W1 (hbV.trans (hW1.mono (by omega))), (hW1.block l (by omega)).trans hVl, (hW1.block _ (by omega)).trans hVd⟩)
  · refine hcall.mono ?_
    rintro e W2 ⟨⟨v, rfl⟩, ⟨B, xs, hS, hj⟩ | ⟨B, pre, hj⟩⟩
    · rw [hJ] at hj
      obtain ⟨h1, h2, h3⟩ := hj
      refine ⟨none, W2.putObj l (R .exhausted none), ?_, ?_⟩
      · have h := run_endLoop (P := P) (r := { state := .ready, pending := none, fn := fn, tmps := a.tmps, params := ps, assign := assign, body := body, defers := w.heap.size }) (by rw [hR] at h2; exact h2) (by simp)
        rw [hR]
        exact h
      · exact hdone B _ xs _ (Nat.le_refl _) hS ((hI B).putObj _ h1 (by omega) h2 (hRc _ _)) ((World.putObj_heap_other (by omega)).trans h3)
    · rw [hJx] at hj
      obtain ⟨c, h1, h2, h3⟩ := hj
      refine ⟨some c, W2.putObj l (R .exhausted (some c)), ?_, ?_⟩
      · have h := run_endLoop (P := P) (r := { state := .done, pending := some c, fn := fn, tmps := a.tmps, params := ps, assign := assign, body := body, defers := w.heap.size }) (by rw [hR] at h2; exact h2) (by simp)
        rw [hR]
        exact h
      · exact hstop B _ c pre _ (Nat.le_refl _) ((hIx B c).putObj _ h1 (by omega) h2 (hRc _ _)) ((World.putObj_heap_other (by omega)).trans h3)
  case round =>
    intro B pre x W hj hp
    rw [hJ] at hj
    obtain ⟨hi, hl1, hd1⟩ := hj
    have hy := run_yield (P := P) (args := encs x) (r := { state := .ready, pending := none, fn := fn, tmps := a.tmps, params := ps, assign := assign, body := body, defers := w.heap.size }) (by rw [hR] at hl1; exact hl1) (hps x)
    refine ⟨fn, _, assign, body, hy, roundIn_of_wpIn hfn (wpIn_mono (hround B l pre x W (by omega) hi hp) ?_)⟩
    intro e a' W' hpost
    cases e with
    | normal =>
      obtain ⟨⟨hk, ho⟩, hbody⟩ := hpost
      have hl2 := hk.same l _ (by omega) hl1 (hRc _ _)
      have hd2 := hk.same w.heap.size _ (Nat.le_refl _) hd1 rfl
      have hlt := (Array.getElem?_eq_some_iff.1 hl2).1
      have hbeg := run_beginRound (P := P) (r := { state := .ready, pending := none, fn := fn, tmps := a.tmps, params := ps, assign := assign, body := body, defers := w.heap.size }) (by rw [hR] at hl2; exact hl2) rfl
      have ht : Turn l W' (W'.putObj l (R .busy none)) := ⟨_, _, hl2, hRc _ _, rfl⟩
      refine ⟨W'.putObj l (R .busy none), by rw [hR]; exact hbeg, wpIn_mono (hbody _ ht) ?_⟩
      have hl3 : (W'.putObj l (R .busy none)).heap[l]? = some (R .busy none) := World.putObj_heap_same hlt
      have hd3 : (W'.putObj l (R .busy none)).heap[w.heap.size]? = some (.deferred (some [])) := (World.putObj_heap_other (by omega)).trans hd2
      have fin : ∀ (jump : Option Code) (W3 : World), KeepsFrom w.heap.size (W'.putObj l (R .busy none)) W3 → ∃ W4, (Instr.endRound l jump).run P W3 = .ok (.bool jump.isNone) W4 ∧ Turn l W3 W4 ∧ (∃ o o', W3.heap[l]? = some o ∧ o.isCells = false ∧ W4 = W3.putObj l o') ∧
          W4.heap[l]? = some (R (if jump.isNone then .ready else .done) jump) ∧ W4.heap[w.heap.size]? = some (.deferred (some [])) := fun jump W3 hk3 => by
        have hl4 := hk3.same l _ (by omega) hl3 (hRc _ _)
        have hd4 := hk3.same w.heap.size _ (Nat.le_refl _) hd3 rfl
        have h := run_endRound (P := P) (r := { state := .busy, pending := none, fn := fn, tmps := a.tmps, params := ps, assign := assign, body := body, defers := w.heap.size }) jump (by rw [hR] at hl4; exact hl4)
        refine ⟨W3.putObj l (R (if jump.isNone then .ready else .done) jump), by rw [hR]; exact h, ⟨_, _, hl4, hRc _ _, rfl⟩, ⟨_, _, hl4, hRc _ _, rfl⟩, World.putObj_heap_same (Array.getElem?_eq_some_iff.1 hl4).1, (World.putObj_heap_other (by omega)).trans hd4⟩
      intro e a3 W3 hout
      have hC2 : ∀ i, Mine C B i → Mine (fun i => C i ∨ i = l) B i := fun i e => e.imp_left .inl
      cases e with
      | normal =>
        obtain ⟨hk3, ho3, hi3⟩ := hout
        obtain ⟨W4, hrun, ht4, ⟨o, o', h5, h6, rfl⟩, hl5, hd5⟩ := fin none W3 hk3
        refine ⟨_, _, hrun, .inl ⟨rfl, ?_, ?_⟩⟩
        · rw [hJ]
          exact ⟨(hI B).putObj _ hi3 (by omega) h5 h6, hl5, hd5⟩
        · exact (((ho.mono fun i e => .inl (hC2 i e)).trans (mine_turn ht) fun i e => .inl e).trans (ho3.mono fun i e => .inl (hC2 i e)) fun i e => .inl e).trans (mine_turn ht4) fun i e => .inl e
      | ret =>
        obtain ⟨hk3, hi3⟩ := hout
        obtain ⟨W4, hrun, ht4, ⟨o, o', h5, h6, rfl⟩, hl5, hd5⟩ := fin (some .ret) W3 hk3
        refine ⟨_, _, hrun, .inr ⟨rfl, ?_⟩⟩
        rw [hJx]
        exact ⟨.ret, (hIx B _).putObj _ hi3 (by omega) h5 h6, hl5, hd5⟩
      | exit id =>
        obtain ⟨hk3, hi3⟩ := hout
        obtain ⟨W4, hrun, ht4, ⟨o, o', h5, h6, rfl⟩, hl5, hd5⟩ := fin (some (.exit id)) W3 hk3
        refine ⟨_, _, hrun, .inr ⟨rfl, ?_⟩⟩
        rw [hJx]
        exact ⟨.exit id, (hIx B _).putObj _ hi3 (by omega) h5 h6, hl5, hd5⟩
      | goto t => exact hout.elim
      | panic ch => exact hout.elim
      | outgrown => exact hout.elim
    | ret => exact hpost.elim
    | exit id => exact hpost.elim
    | goto t => exact hpost.elim
    | panic ch => exact hpost.elim
    | outgrown => exact hpost.elim
end
end Go.Proofs.Ytaamlidflfdjkaa.told
