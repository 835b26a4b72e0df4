/-
  The contract of Heap.rise at ints.
-/
import Derived.Test.YtcnncfjplmejhaaHCmp
import Derived.Test.YtcnncfjplmejhaaHeapM
import Derived.Deep.RegionHeld3
import Derived.Deep.LoopGhost
import Derived.WalkSpells
namespace Go.Proofs.Ytcnncfjplmejhaa.heap
open Go.RowKit law bytes only heapM Go.Sort Go.Shelf
set_option linter.unusedVariables false

def iE (x : Int) : Value := .int .i64 x
def iv (d : Array Int) : List Value := d.toList.map (.int .i64)
theorem iv_length (d : Array Int) : (iv d).length = d.size := by simp [iv]
theorem iv_get (d : Array Int) (i : Nat) (h : i < d.size) : (iv d)[i]? = some (.int .i64 d[i]!) := by simp [iv, h]
def lf {α : Type} (cf : α → α → Int) (x y : α) : Bool := decide (cf x y < 0)
/-- a row of ints of the call's own -/
def Row (w : World) (base g c : Nat) (d : Array Int) : Prop := w.ownsRow base 3 1 (.slice (some ⟨g, 0, none⟩) d.size c) d.size (iv d)
section
variable {w w' : World} {base g c : Nat} {d : Array Int}
theorem Row.lt (h : Row w base g c d) : g < w.heap.size := (own_lt h (g := g) rfl).2
theorem Row.ge (h : Row w base g c d) : base ≤ g := (own_lt h (g := g) rfl).1
theorem Row.cell (h : Row w base g c d) (i : Nat) (hi : i < d.size) : w.cell? ⟨g, i, none⟩ = some (.int .i64 d[i]!) := by
  have := h.cellAt i (by omega)
  rw [this, iv_get d i hi]
theorem Row.frozen (h : Row w base g c d) (i : Nat) : w.frozen? ⟨g, i, none⟩ = false := h.frozenAt i
theorem Row.only {S : Nat → Prop} (h : Row w base g c d) (k : Only S w w') (hg : ¬ S g) : Row w' base g c d := own_only h k fun g' e => by
  simp only [Value.ownBlock, Option.some.injEq] at e
  rwa [← e]
theorem Row.below {B : Nat} (h : Row w base g c d) (k : Below B w w') (hB : w.heap.size ≤ B) : Row w' base g c d := own_below h k hB
theorem Row.drew_ (h : Row w base g c d) : Row w.drew base g c d := h
theorem Row.set (h : Row w base g c d) (i : Nat) (x : Int) (hi : i < d.size) : Row (w.setCell ⟨g, i, none⟩ (.int .i64 x)) base g c (d.setIfInBounds i x) := by
  obtain ⟨hl, hn | ⟨g', cap, cur, hv, hg, hh, hnc, hcm, hcs, hx⟩⟩ := h
  · simp at hn
  · injection hv with e1 e2 e3
    injection e1 with e1
    injection e1 with e1
    subst e1 e3
    refine ⟨by simp [iv], .inr ⟨g, c, cur.setIfInBounds i (.int .i64 x), by simp, hg, ?_, by simp; omega, hcm, by simp; omega, ?_⟩⟩
    · simp [World.setCell, Array.getElem?_modify, hh]
    · rw [Array.toList_setIfInBounds, Array.size_setIfInBounds, List.take_set, hx]
      simp [iv, List.map_set]
theorem Row.swap (h : Row w base g c d) (i j : Nat) (hi : i < d.size) (hj : j < d.size) : Row ((w.setCell ⟨g, i, none⟩ (.int .i64 d[j]!)).setCell ⟨g, j, none⟩ (.int .i64 d[i]!)) base g c (swp d i j) := by
  unfold swp
  exact (h.set i d[j]! hi).set j d[i]! (by simpa using hj)
end
set_option maxRecDepth 100000 in
set_option maxHeartbeats 1600000 in
theorem rise_int (K hb : Nat) (v : Value) (cf : Int → Int → Int) (hK : Enters Try.prog K) (hO : Ordr K iE cf) (hS : SWO (lf cf)) (base g c : Nat) (d : Array Int) (w : World)
    (hs : Blk w hb 50 #[.func (.func K) #[] #[], v]) (hr : Row w base g c d) (hne : hb ≠ g) (h0 : 0 < d.size) (hU : Up (lf cf) d (d.size - 1)) (hsz : d.size < 4611686018427387904) :
    Calls Try.prog 21 #[.pointer (some ⟨hb, 0, none⟩), .slice (some ⟨g, 0, none⟩) d.size c] w fun e w' =>
      e = .returned (.tuple #[]) ∧ Only (· = g) w w' ∧ ∃ d', d'.size = d.size ∧ d'.toList.Perm d.toList ∧ Heap (lf cf) d' ∧ Row w' base g c d' := by
  have HC : Hid (∀ (W : World) (x y : Int), Only (· = g) w W → Calls Try.prog 24 #[.pointer (some ⟨hb, 0, none⟩), .int .i64 x, .int .i64 y] W fun e w' => e = .returned (.int .i64 (cf x y)) ∧ Below W.heap.size W w') :=
    Lib.hid fun W x y hW => compare_int (E := iE) K hb v cf hK x y W (Blk.only hs hW hne) hO
  clear hK hO hs
  have i0 : IntKind.i64.wrap ((d.size : Int) - 1) = (d.size : Int) - 1 := by rw [IntKind.wrap_i64]; omega
  go_enter Try.func21, Try.ntmps21
  go_wp2_with (fail)
  go_loopg [4, 5] (d.size - 1) (fun gk s4 s5 wr => ∃ (a : Nat) (d' : Array Int), a = gk ∧ s4 = .int .i64 a ∧ a < d.size ∧ d'.size = d.size ∧ Up (lf cf) d' a ∧ d'.toList.Perm d.toList ∧ Row wr base g c d' ∧ Only (· = g) w wr)
  case atStart => exact ⟨d.size - 1, d, rfl, by go_num, by omega, rfl, hU, List.Perm.refl _, hr, Only.refl _ _⟩
  case round =>
    obtain ⟨a, d', rfl, rfl, ha, hds, hU', hp, hr', ho⟩ := hrel
    by_cases h0 : a = 0
    · subst h0
      go_wp2_with (fail)
      go_end0
      exact ⟨rfl, ho, d', hds, hp, hU'.stop (.inl rfl), hr'⟩
    · obtain ⟨p, hpp⟩ : ∃ p, p = (a - 1) / 2 := ⟨_, rfl⟩
      have i1 : (0 : Int) < (a : Int) := by omega
      have i2 : IntKind.i64.wrap ((a : Int) - 1) = ((a - 1 : Nat) : Int) := by rw [IntKind.wrap_i64]; omega
      have i3 : ((a - 1 : Nat) : Int) / 2 = (p : Int) := by rw [hpp]; omega
      have i4 : (a : Int) < (d.size : Int) := by omega
      have i5 : (p : Int) < (d.size : Int) := by omega
      have HS : Hid (∀ W, Below wr.heap.size wr W → W.cell? ⟨g, a, none⟩ = some (.int .i64 d'[a]!) ∧ W.cell? ⟨g, p, none⟩ = some (.int .i64 d'[p]!)) := Lib.hid fun W hW =>
        ⟨(hr'.below hW (Nat.le_refl _)).cell a (by omega), (hr'.below hW (Nat.le_refl _)).cell p (by omega)⟩
      have HC2 : Hid (∀ W, Below wr.heap.size wr W → Calls Try.prog 24 #[.pointer (some ⟨hb, 0, none⟩), .int .i64 d'[a]!, .int .i64 d'[p]!] W fun e w' => e = .returned (.int .i64 (cf d'[a]! d'[p]!)) ∧ Below wr.heap.size wr w') :=
        Lib.hid fun W hW => (HC.out W _ _ (ho.on hW)).mono fun e w' ⟨he, hb'⟩ => ⟨he, hW.trans (hb'.mono hW.size)⟩
      have HR := Lib.hid hr'
      have HO := Lib.hid ho
      have HU2 := Lib.hid hU'
      have HP := Lib.hid hp
      have hl : lf cf d'[a]! d'[p]! = decide (cf d'[a]! d'[p]! < 0) := rfl
      clear hr' ho hU' hU hr hp
      obtain ⟨q0, q1⟩ := HS.out wr (Below.refl _ _)
      generalize hx : d'[a]! = x at hl q0 q1 HS HC2
      generalize hy : d'[p]! = y at hl q0 q1 HS HC2
      generalize cf x y = r at hl HC2
      have HX := Lib.hid hx
      have HY := Lib.hid hy
      have HL := Lib.hid hl
      have HPP := Lib.hid hpp
      clear hx hy hl hpp
      by_cases hrr : r < 0
      · have hrd : decide (0 ≤ r) = false := decide_eq_false (by omega)
        go_wp2_with (fail)
        go_region_held3 (fun W => W.cell? ⟨g, a, none⟩ = some (.int .i64 x) ∧ W.cell? ⟨g, p, none⟩ = some (.int .i64 y)) ((refine HS.out _ ?_; repeat' (first | (with_reducible exact Below.refl _ _) | (with_reducible assumption) | (with_reducible refine Below.drew ?_) | (with_reducible refine below_drewN' ?_ _))))
          (first
            | (go_at_call 24; (with_reducible refine (HC2.out _ (by repeat' (first | (with_reducible exact Below.refl _ _) | (with_reducible assumption) | (with_reducible refine Below.drew ?_) | (with_reducible refine below_drewN' ?_ _)))).mono ?_); rintro e w2 ⟨rfl, hb2⟩))
        have HR2 := Lib.hid (HR.out.below hb2 (Nat.le_refl _))
        have HO2 := Lib.hid (HO.out.on hb2)
        obtain ⟨q0, q1⟩ := HS.out w2 hb2
        have f0 := HR2.out.frozen a
        have f1 := HR2.out.frozen p
        clear hb2 HC2 HS HR
        go_wp2_with (fail)
        go_region
        have hx := HX.out
        have hy := HY.out
        have hl := HL.out
        have hpp := HPP.out
        have hl2 : lf cf x y = true := by rw [hl]; exact decide_eq_true hrr
        subst hx hy hpp
        have HRS := Lib.hid (HR2.out.swap a ((a - 1) / 2) (by omega) (by omega)).drew_
        have HOS : Hid (Only (· = g) w ((w2.setCell ⟨g, a, none⟩ (.int .i64 d'[(a - 1) / 2]!)).setCell ⟨g, (a - 1) / 2, none⟩ (.int .i64 d'[a]!)).drew) := Lib.hid (((HO2.out.setCell (.inl rfl) _).setCell (.inl rfl) _).drew)
        go_wp2_with (fail)
        go_roundg ((a - 1) / 2)
        case measure => omega
        case rel => exact ⟨(a - 1) / 2, swp d' a ((a - 1) / 2), rfl, rfl, by omega, by rw [size_swp]; exact hds, HU2.out.step hS (by omega) (by omega) hl2, (swp_perm d' _ _ (by omega) (by omega)).trans HP.out, HRS.out, HOS.out⟩
      · have hrd : decide (0 ≤ r) = true := decide_eq_true (by omega)
        go_wp2_with (fail)
        go_region_held3 (fun W => W.cell? ⟨g, a, none⟩ = some (.int .i64 x) ∧ W.cell? ⟨g, p, none⟩ = some (.int .i64 y)) ((refine HS.out _ ?_; repeat' (first | (with_reducible exact Below.refl _ _) | (with_reducible assumption) | (with_reducible refine Below.drew ?_) | (with_reducible refine below_drewN' ?_ _))))
          (first
            | (go_at_call 24; (with_reducible refine (HC2.out _ (by repeat' (first | (with_reducible exact Below.refl _ _) | (with_reducible assumption) | (with_reducible refine Below.drew ?_) | (with_reducible refine below_drewN' ?_ _)))).mono ?_); rintro e w2 ⟨rfl, hb2⟩))
        go_wp2_with (fail)
        refine bodyPost_ret (results_none rfl _ _ _) rfl ?_
        have hx := HX.out
        have hy := HY.out
        have hl := HL.out
        have hpp := HPP.out
        have hl2 : lf cf x y = false := by rw [hl]; exact decide_eq_false (by omega)
        subst hx hy hpp
        exact ⟨rfl, HO.out.on hb2, d', hds, HP.out, HU2.out.stop (.inr hl2), HR.out.below hb2 (Nat.le_refl _)⟩
end Go.Proofs.Ytcnncfjplmejhaa.heap
