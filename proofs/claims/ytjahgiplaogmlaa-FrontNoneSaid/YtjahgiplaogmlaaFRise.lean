/-
  A row of entries; the contract of Heap.rise at entries.
-/
import Derived.Test.YtjahgiplaogmlaaFCmp
namespace Go.Proofs.Ytjahgiplaogmlaa.fro
open Go.RowKit law bytes only flat heapM Go.Sort Go.Shelf
set_option linter.unusedVariables false

/-- a row of entries of the call's own -/
def ERow (w : World) (base g c : Nat) (d : Array Ent) : Prop := FRow ec 3 44 w base g c d
section
variable {w w' : World} {base g c : Nat} {d : Array Ent}
theorem ERow.lt (h : ERow w base g c d) : g < w.heap.size := FRow.lt h
theorem ERow.c1 (h : ERow w base g c d) (i : Nat) (hi : i < d.size) : w.cell? ⟨g, i * 3, none⟩ = some (.int .i64 d[i]!.1) := FRow.cell h ec_len i 0 hi (by decide)
theorem ERow.c2 (h : ERow w base g c d) (i : Nat) (hi : i < d.size) : w.cell? ⟨g, i * 3 + 1, none⟩ = some (.int .i64 d[i]!.2.1) := FRow.cell h ec_len i 1 hi (by decide)
theorem ERow.c3 (h : ERow w base g c d) (i : Nat) (hi : i < d.size) : w.cell? ⟨g, i * 3 + 2, none⟩ = some (.int .u64 d[i]!.2.2) := FRow.cell h ec_len i 2 hi (by decide)
theorem ERow.frozen (h : ERow w base g c d) (i : Nat) : w.frozen? ⟨g, i, none⟩ = false := FRow.frozen h i
theorem ERow.only {S : Nat → Prop} (h : ERow w base g c d) (k : Only S w w') (hg : ¬ S g) : ERow w' base g c d := FRow.only h k hg
theorem ERow.below {B : Nat} (h : ERow w base g c d) (k : Below B w w') (hB : w.heap.size ≤ B) : ERow w' base g c d := FRow.below h k hB
theorem ERow.drew_ (h : ERow w base g c d) : ERow w.drew base g c d := h
theorem ERow.set (h : ERow w base g c d) (i : Nat) (x : Ent) (hi : i < d.size) : ERow (((w.setCell ⟨g, i * 3, none⟩ (.int .i64 x.1)).setCell ⟨g, i * 3 + 1, none⟩ (.int .i64 x.2.1)).setCell ⟨g, i * 3 + 2, none⟩ (.int .u64 x.2.2)) base g c (d.setIfInBounds i x) := FRow.set_ h ec_len i x hi
theorem ERow.swap (h : ERow w base g c d) (i j : Nat) (hi : i < d.size) (hj : j < d.size) : ERow ((((((w.setCell ⟨g, i * 3, none⟩ (.int .i64 d[j]!.1)).setCell ⟨g, i * 3 + 1, none⟩ (.int .i64 d[j]!.2.1)).setCell ⟨g, i * 3 + 2, none⟩ (.int .u64 d[j]!.2.2)).setCell ⟨g, j * 3, none⟩ (.int .i64 d[i]!.1)).setCell ⟨g, j * 3 + 1, none⟩ (.int .i64 d[i]!.2.1)).setCell ⟨g, j * 3 + 2, none⟩ (.int .u64 d[i]!.2.2)) base g c (swp d i j) := by
  unfold swp
  exact (h.set i d[j]! hi).set j d[i]! (by simpa using hj)
end
set_option maxRecDepth 100000 in
set_option maxHeartbeats 1600000 in
theorem rise_ent (K hb : Nat) (v : Value) (cf : Ent → Ent → Int) (hK : Enters Try.prog K) (hO : Ordr K tE cf) (hS : SWO (lf cf)) (base g c : Nat) (d : Array Ent) (w : World)
    (hs : Blk w hb 59 #[.func (.func K) #[] #[], v]) (hr : ERow w base g c d) (hne : hb ≠ g) (h0 : 0 < d.size) (hU : Up (lf cf) d (d.size - 1)) (hsz : d.size < 4611686018427387904) :
    Calls Try.prog 28 #[.pointer (some ⟨hb, 0, none⟩), .slice (some ⟨g, 0, none⟩) d.size c] w fun e w' =>
      e = .returned (.tuple #[]) ∧ Only (· = g) w w' ∧ ∃ d', d'.size = d.size ∧ d'.toList.Perm d.toList ∧ Heap (lf cf) d' ∧ ERow w' base g c d' := by
  have HC : Hid (∀ (W : World) (x y : Ent), Only (· = g) w W → Calls Try.prog 34 #[.pointer (some ⟨hb, 0, none⟩), tE x, tE y] W fun e w' => e = .returned (.int .i64 (cf x y)) ∧ Below W.heap.size W w') :=
    Lib.hid fun W x y hW => compare_ent K hb v cf hK x y W (Blk.only hs hW hne) hO
  clear hK hO hs
  have i0 : IntKind.i64.wrap ((d.size : Int) - 1) = (d.size : Int) - 1 := by rw [IntKind.wrap_i64]; omega
  go_enter Try.func28, Try.ntmps28
  go_wp2_with (fail)
  go_loopg [4, 5] (d.size - 1) (fun gk s4 s5 wr => ∃ (a : Nat) (d' : Array Ent), a = gk ∧ s4 = .int .i64 a ∧ a < d.size ∧ d'.size = d.size ∧ Up (lf cf) d' a ∧ d'.toList.Perm d.toList ∧ ERow wr base g c d' ∧ Only (· = g) w wr)
  case atStart => exact ⟨d.size - 1, d, rfl, by go_num, by omega, rfl, hU, List.Perm.refl _, hr, Only.refl _ _⟩
  case round =>
    obtain ⟨a, d', rfl, rfl, ha, hds, hU', hp, hr', ho⟩ := hrel
    by_cases h0 : a = 0
    · subst h0
      go_wp2_with (fail)
      go_end0
      exact ⟨rfl, ho, d', hds, hp, hU'.stop (.inl rfl), hr'⟩
    · obtain ⟨p, hpp⟩ : ∃ p, p = (a - 1) / 2 := ⟨_, rfl⟩
      have i1 : (0 : Int) < (a : Int) := by omega
      have i2 : IntKind.i64.wrap ((a : Int) - 1) = ((a - 1 : Nat) : Int) := by rw [IntKind.wrap_i64]; omega
      have i3 : ((a - 1 : Nat) : Int) / 2 = (p : Int) := by rw [hpp]; omega
      have i4 : (a : Int) < (d.size : Int) := by omega
      have i5 : (p : Int) < (d.size : Int) := by omega
      have HS : Hid (∀ W, Below wr.heap.size wr W → W.cell? ⟨g, a * 3, none⟩ = some (.int .i64 d'[a]!.1) ∧ W.cell? ⟨g, a * 3 + 1, none⟩ = some (.int .i64 d'[a]!.2.1) ∧ W.cell? ⟨g, a * 3 + 2, none⟩ = some (.int .u64 d'[a]!.2.2) ∧ W.cell? ⟨g, p * 3, none⟩ = some (.int .i64 d'[p]!.1) ∧ W.cell? ⟨g, p * 3 + 1, none⟩ = some (.int .i64 d'[p]!.2.1) ∧ W.cell? ⟨g, p * 3 + 2, none⟩ = some (.int .u64 d'[p]!.2.2)) := Lib.hid fun W hW =>
        ⟨(hr'.below hW (Nat.le_refl _)).c1 a (by omega), (hr'.below hW (Nat.le_refl _)).c2 a (by omega), (hr'.below hW (Nat.le_refl _)).c3 a (by omega), (hr'.below hW (Nat.le_refl _)).c1 p (by omega), (hr'.below hW (Nat.le_refl _)).c2 p (by omega), (hr'.below hW (Nat.le_refl _)).c3 p (by omega)⟩
      have HC2 : Hid (∀ W, Below wr.heap.size wr W → Calls Try.prog 34 #[.pointer (some ⟨hb, 0, none⟩), tE d'[a]!, tE d'[p]!] W fun e w' => e = .returned (.int .i64 (cf d'[a]! d'[p]!)) ∧ Below wr.heap.size wr w') :=
        Lib.hid fun W hW => (HC.out W _ _ (ho.on hW)).mono fun e w' ⟨he, hb'⟩ => ⟨he, hW.trans (hb'.mono hW.size)⟩
      have HR := Lib.hid hr'
      have HO := Lib.hid ho
      have HU2 := Lib.hid hU'
      have HP := Lib.hid hp
      have hl : lf cf d'[a]! d'[p]! = decide (cf d'[a]! d'[p]! < 0) := rfl
      clear hr' ho hU' hU hr hp
      obtain ⟨q0, q1, q2, q3, q4, q5⟩ := HS.out wr (Below.refl _ _)
      generalize hx : d'[a]! = x at hl q0 q1 q2 q3 q4 q5 HS HC2
      generalize hy : d'[p]! = y at hl q0 q1 q2 q3 q4 q5 HS HC2
      generalize cf x y = r at hl HC2
      unfold tE at HC2
      have HX := Lib.hid hx
      have HY := Lib.hid hy
      have HL := Lib.hid hl
      have HPP := Lib.hid hpp
      clear hx hy hl hpp
      by_cases hrr : r < 0
      · have hrd : decide (0 ≤ r) = false := decide_eq_false (by omega)
        go_wp2_with (fail)
        go_region_held3 (fun W => W.cell? ⟨g, a * 3, none⟩ = some (.int .i64 x.1) ∧ W.cell? ⟨g, a * 3 + 1, none⟩ = some (.int .i64 x.2.1) ∧ W.cell? ⟨g, a * 3 + 2, none⟩ = some (.int .u64 x.2.2) ∧ W.cell? ⟨g, p * 3, none⟩ = some (.int .i64 y.1) ∧ W.cell? ⟨g, p * 3 + 1, none⟩ = some (.int .i64 y.2.1) ∧ W.cell? ⟨g, p * 3 + 2, none⟩ = some (.int .u64 y.2.2)) ((refine HS.out _ ?_; repeat' (first | (with_reducible exact Below.refl _ _) | (with_reducible assumption) | (with_reducible refine Below.drew ?_) | (with_reducible refine below_drewN' ?_ _))))
          (first
            | (go_at_call 34; (with_reducible refine (HC2.out _ (by repeat' (first | (with_reducible exact Below.refl _ _) | (with_reducible assumption) | (with_reducible refine Below.drew ?_) | (with_reducible refine below_drewN' ?_ _)))).mono ?_); rintro e w2 ⟨rfl, hb2⟩))
        have HR2 := Lib.hid (HR.out.below hb2 (Nat.le_refl _))
        have HO2 := Lib.hid (HO.out.on hb2)
        obtain ⟨q0, q1, q2, q3, q4, q5⟩ := HS.out w2 hb2
        have f0 := HR2.out.frozen (a * 3)
        have f1 := HR2.out.frozen (a * 3 + 1)
        have f2 := HR2.out.frozen (a * 3 + 2)
        have f3 := HR2.out.frozen (p * 3)
        have f4 := HR2.out.frozen (p * 3 + 1)
        have f5 := HR2.out.frozen (p * 3 + 2)
        clear hb2 HC2 HS HR
        go_wp2_with (fail)
        go_region
        have hx := HX.out
        have hy := HY.out
        have hl := HL.out
        have hpp := HPP.out
        have hl2 : lf cf x y = true := by rw [hl]; exact decide_eq_true hrr
        subst hx hy hpp
        have HRS := Lib.hid (HR2.out.swap a ((a - 1) / 2) (by omega) (by omega)).drew_
        have HOS : Hid (Only (· = g) w ((((((w2.setCell ⟨g, a * 3, none⟩ (.int .i64 d'[(a - 1) / 2]!.1)).setCell ⟨g, a * 3 + 1, none⟩ (.int .i64 d'[(a - 1) / 2]!.2.1)).setCell ⟨g, a * 3 + 2, none⟩ (.int .u64 d'[(a - 1) / 2]!.2.2)).setCell ⟨g, (a - 1) / 2 * 3, none⟩ (.int .i64 d'[a]!.1)).setCell ⟨g, (a - 1) / 2 * 3 + 1, none⟩ (.int .i64 d'[a]!.2.1)).setCell ⟨g, (a - 1) / 2 * 3 + 2, none⟩ (.int .u64 d'[a]!.2.2)).drew) := Lib.hid (((((((HO2.out.setCell (.inl rfl) _).setCell (.inl rfl) _).setCell (.inl rfl) _).setCell (.inl rfl) _).setCell (.inl rfl) _).setCell (.inl rfl) _).drew)
        go_wp2_with (fail)
        go_roundg ((a - 1) / 2)
        case measure => omega
        case rel => exact ⟨(a - 1) / 2, swp d' a ((a - 1) / 2), rfl, rfl, by omega, by rw [size_swp]; exact hds, HU2.out.step hS (by omega) (by omega) hl2, (swp_perm d' _ _ (by omega) (by omega)).trans HP.out, HRS.out, HOS.out⟩
      · have hrd : decide (0 ≤ r) = true := decide_eq_true (by omega)
        go_wp2_with (fail)
        go_region_held3 (fun W => W.cell? ⟨g, a * 3, none⟩ = some (.int .i64 x.1) ∧ W.cell? ⟨g, a * 3 + 1, none⟩ = some (.int .i64 x.2.1) ∧ W.cell? ⟨g, a * 3 + 2, none⟩ = some (.int .u64 x.2.2) ∧ W.cell? ⟨g, p * 3, none⟩ = some (.int .i64 y.1) ∧ W.cell? ⟨g, p * 3 + 1, none⟩ = some (.int .i64 y.2.1) ∧ W.cell? ⟨g, p * 3 + 2, none⟩ = some (.int .u64 y.2.2)) ((refine HS.out _ ?_; repeat' (first | (with_reducible exact Below.refl _ _) | (with_reducible assumption) | (with_reducible refine Below.drew ?_) | (with_reducible refine below_drewN' ?_ _))))
          (first
            | (go_at_call 34; (with_reducible refine (HC2.out _ (by repeat' (first | (with_reducible exact Below.refl _ _) | (with_reducible assumption) | (with_reducible refine Below.drew ?_) | (with_reducible refine below_drewN' ?_ _)))).mono ?_); rintro e w2 ⟨rfl, hb2⟩))
        go_wp2_with (fail)
        refine bodyPost_ret (results_none rfl _ _ _) rfl ?_
        have hx := HX.out
        have hy := HY.out
        have hl := HL.out
        have hpp := HPP.out
        have hl2 : lf cf x y = false := by rw [hl]; exact decide_eq_false (by omega)
        subst hx hy hpp
        exact ⟨rfl, HO.out.on hb2, d', hds, HP.out, HU2.out.stop (.inr hl2), HR.out.below hb2 (Nat.le_refl _)⟩
end Go.Proofs.Ytjahgiplaogmlaa.fro
