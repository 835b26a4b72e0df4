/-
  The contracts of object.Clone and of the document's own Same.
-/
import Derived.Test.YtdfakjpchgomdaaLess
namespace Go.Proofs.Ytdfakjpchgomdaa.obj
open Go.RowKit law bytes nums ord
set_option linter.unusedVariables false

theorem own_base {w : World} {base base' : Nat} {e : TypeId} {size n : Nat} {v : Value} {xs : List Value} (h : w.ownsRow base' e size v n xs) (hb : base ≤ base') : w.ownsRow base e size v n xs := by
  refine ⟨h.1, ?_⟩
  rcases h.2 with hn | ⟨g, cap, cur, hv, hg, rest⟩
  · exact .inl hn
  · exact .inr ⟨g, cap, cur, hv, Nat.le_trans hb hg, rest⟩
theorem on' {P : Program} {f : FuncId} {args : Array Value} {V W : World} {v : Value} (hb : Below V.heap.size V W) (h : Calls P f args W (Gives v W)) : Calls P f args W fun e w' => e = .returned v ∧ Below W.heap.size W w' ∧ Below V.heap.size V w' :=
  h.mono fun e w' ⟨he, h2⟩ => ⟨he, h2, hb.trans (h2.mono hb.size)⟩
theorem made_on {P : Program} {f : FuncId} {args : Array Value} {V W : World} {t : TypeId} {xs : List Value} {n : Nat} (hb : Below V.heap.size V W) (hn : xs.length = n) (h : Calls P f args W (Made t xs W)) :
    Calls P f args W fun e w' => ∃ A c, e = .returned (.slice A n c) ∧ w'.ownsRow V.heap.size t 1 (.slice A n c) n xs ∧ Below V.heap.size V w' := by
  subst hn
  exact h.mono fun e w' ⟨A, c, he, ho, h2⟩ => ⟨A, c, he, own_base ho hb.size, hb.trans (h2.mono hb.size)⟩
theorem Below.three {B : Nat} {w V : World} (h : Below B w V) {b : Nat} (hb : B ≤ b) (u0 u1 u2 : Value) : Below B w (((V.setCell ⟨b, 0, none⟩ u0).setCell ⟨b, 1, none⟩ u1).setCell ⟨b, 2, none⟩ u2) :=
  ((h.setCell (p := ⟨b, 0, none⟩) hb u0).setCell (p := ⟨b, 1, none⟩) hb u1).setCell (p := ⟨b, 2, none⟩) hb u2
theorem own_three {V : World} {base b n : Nat} {t : TypeId} {v : Value} {xs : List Value} (h : V.ownsRow base t 1 v n xs) (hb : b < base) (u0 u1 u2 : Value) : (((V.setCell ⟨b, 0, none⟩ u0).setCell ⟨b, 1, none⟩ u1).setCell ⟨b, 2, none⟩ u2).ownsRow base t 1 v n xs :=
  ownsRow_setCell_below (ownsRow_setCell_below (ownsRow_setCell_below h hb _) hb _) hb _
/-- a copy, in memory of its own -/
def Cloned (x : Thing) (w : World) (e : Ending) (w' : World) : Prop := ∃ A c, e = .returned (.agg #[.int .i64 x.tag, .slice A x.vec.length c, .string x.str]) ∧ Sl w' w'.heap.size A (iv x.vec) ∧ Below w.heap.size w w'
set_option maxHeartbeats 800000 in
theorem rsame_any (A A' : Option Addr) (c c' B B' : Nat) (x y : Thing) (w : World) (hx : x.vec.length ≤ 281474976710656) (hy : y.vec.length ≤ 281474976710656) (hB : B ≤ w.heap.size) (hB' : B' ≤ w.heap.size) (hs : Sl w B A (iv x.vec)) (hs' : Sl w B' A' (iv y.vec)) :
    Calls Try.prog 14 #[.agg #[.int .i64 x.tag, .slice A x.vec.length c, .string x.str], .agg #[.int .i64 y.tag, .slice A' y.vec.length c', .string y.str]] w (Gives (.bool (sameO x y)) w) := by
  have hR := sameO_eq x y
  obtain ⟨hb, hba, hbb⟩ := two_box w 24 #[.int .i64 x.tag, .slice A x.vec.length c, .string x.str] #[.int .i64 y.tag, .slice A' y.vec.length c', .string y.str]
  have hs1 : Sl ((w.alloc (.cells #[.int .i64 x.tag, .slice A x.vec.length c, .string x.str] 24)).alloc (.cells #[.int .i64 y.tag, .slice A' y.vec.length c', .string y.str] 24)) B A (iv x.vec) := (hs.alloc hB _).alloc (by simp; omega) _
  have hs2 : Sl ((w.alloc (.cells #[.int .i64 x.tag, .slice A x.vec.length c, .string x.str] 24)).alloc (.cells #[.int .i64 y.tag, .slice A' y.vec.length c', .string y.str] 24)) B' A' (iv y.vec) := (hs'.alloc hB' _).alloc (by simp; omega) _
  obtain ⟨V, hV⟩ : ∃ V, V = ((w.alloc (.cells #[.int .i64 x.tag, .slice A x.vec.length c, .string x.str] 24)).alloc (.cells #[.int .i64 y.tag, .slice A' y.vec.length c', .string y.str] 24)) := ⟨_, rfl⟩
  rw [← hV] at hs1 hs2 hb hba hbb
  have hL1 : ∀ W, Below V.heap.size V W → Calls Try.prog 34 #[.agg #[.int .i64 x.tag, .slice A x.vec.length c, .string x.str], .agg #[.int .i64 y.tag, .slice A' y.vec.length c', .string y.str]] W (Gives (.bool (lessO x y)) W) := fun W hW => by
    have h1 := hb.size
    have h2 := hW.size
    exact less_any A A' c c' B B' x y W hx (by omega) (by omega) (hs1.below (hW.mono (by omega))) (hs2.below (hW.mono (by omega)))
  have hL2 : ∀ W, Below V.heap.size V W → Calls Try.prog 34 #[.agg #[.int .i64 y.tag, .slice A' y.vec.length c', .string y.str], .agg #[.int .i64 x.tag, .slice A x.vec.length c, .string x.str]] W (Gives (.bool (lessO y x)) W) := fun W hW => by
    have h1 := hb.size
    have h2 := hW.size
    exact less_any A' A c' c B' B y x W hy (by omega) (by omega) (hs2.below (hW.mono (by omega))) (hs1.below (hW.mono (by omega)))
  have hgl := hba.lt
  have hgl2 := hbb.lt
  have HB := Lib.hid hb
  generalize lessO x y = r1 at hR hL1
  generalize lessO y x = r2 at hR hL2
  have HR := Lib.hid hR
  have HL1 := Lib.hid hL1
  have HL2 := Lib.hid hL2
  clear hs hs' hs1 hs2 hR hL1 hL2 hb hx hy hB hB'
  obtain ⟨c0, c1, c2, cf⟩ := cells3 hba
  obtain ⟨d0, d1, d2, df⟩ := cells3 hbb
  cases r1
  · go_enter Try.func14, Try.ntmps14
    go_wp2_with (fail)
    rw [← hV]
    clear hV
    refine (on' (Below.refl _ _) (HL1.out V (Below.refl _ _))).mono ?_
    rintro e w1 ⟨rfl, hb1, -⟩
    obtain ⟨c0, c1, c2, cf⟩ := cells3 (hba.below hb1 hgl)
    obtain ⟨d0, d1, d2, df⟩ := cells3 (hbb.below hb1 hgl2)
    go_wp2_with (fail)
    refine (on hb1 (HL2.out w1 hb1)).mono ?_
    rintro e w2 ⟨rfl, hb2⟩
    go_wp2_with (fail)
    go_ret
    rw [HR.out]
    exact ⟨by first | rfl | (cases r2 <;> rfl), HB.out.trans (hb2.mono HB.out.size)⟩
  · go_enter Try.func14, Try.ntmps14
    go_wp2_with (fail)
    rw [← hV]
    clear hV
    refine (on' (Below.refl _ _) (HL1.out V (Below.refl _ _))).mono ?_
    rintro e w1 ⟨rfl, hb1, -⟩
    go_wp2_with (fail)
    go_ret
    rw [HR.out]
    exact ⟨rfl, HB.out.trans (hb1.mono HB.out.size)⟩
end Go.Proofs.Ytdfakjpchgomdaa.obj
