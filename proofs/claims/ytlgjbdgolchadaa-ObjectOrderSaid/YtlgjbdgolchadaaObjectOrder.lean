/-
  For all three things the law ObjectOrder returns true, and changes nothing that there was.
-/
import Derived.Test.YtlgjbdgolchadaaClone
namespace Go.Proofs.Ytlgjbdgolchadaa.objectOrder
open Go.RowKit law bytes nums ord obj
open Go.ChangeShapes Go.WideShapes Go.ChangeAt
set_option linter.unusedVariables false

theorem three_box (w : World) (t : Nat) (a b c : Array Value) : Below w.heap.size w (((w.alloc (.cells a t)).alloc (.cells b t)).alloc (.cells c t)) ∧
    Blk (((w.alloc (.cells a t)).alloc (.cells b t)).alloc (.cells c t)) w.heap.size t a ∧ Blk (((w.alloc (.cells a t)).alloc (.cells b t)).alloc (.cells c t)) (w.heap.size + 1) t b ∧ Blk (((w.alloc (.cells a t)).alloc (.cells b t)).alloc (.cells c t)) (w.heap.size + 1 + 1) t c := by
  refine ⟨(((Below.refl _ w).alloc (Nat.le_refl _) _).alloc (by simp) _).alloc (by simp; omega) _, ((Blk.new w t a).alloc _).alloc _, ?_, ?_⟩
  · have h := (Blk.new (w.alloc (.cells a t)) t b).alloc (.cells c t)
    rwa [show (w.alloc (.cells a t)).heap.size = w.heap.size + 1 from by simp] at h
  · have h := Blk.new ((w.alloc (.cells a t)).alloc (.cells b t)) t c
    rwa [show ((w.alloc (.cells a t)).alloc (.cells b t)).heap.size = w.heap.size + 1 + 1 from by simp] at h
theorem cloned_on {P : Program} {f : FuncId} {args : Array Value} {V W : World} {x : Thing} (hb : Below V.heap.size V W) (h : Calls P f args W (Cloned x W)) :
    Calls P f args W fun e w' => ∃ A c, e = .returned (.agg #[.int .i64 x.tag, .slice A x.vec.length c, .string x.str]) ∧ Sl w' w'.heap.size A (iv x.vec) ∧ Below V.heap.size V w' :=
  h.mono fun e w' ⟨A, c, he, hs, h2⟩ => ⟨A, c, he, hs, hb.trans (h2.mono hb.size)⟩
/-- of a size that a machine holds -/
def Fits (x : Thing) : Prop := x.vec.length * 4 ≤ 140737488351232 ∧ x.str.size ≤ 140737488351232
set_option maxHeartbeats 1600000 in
set_option maxRecDepth 100000 in
theorem walkL (A0 A1 A2 : Option Addr) (k0 k1 k2 : Nat) (x y z : Thing) (w : World) (fx : Fits x) (fy : Fits y) (fz : Fits z) (s0 : Sl w w.heap.size A0 (iv x.vec)) (s1 : Sl w w.heap.size A1 (iv y.vec)) (s2 : Sl w w.heap.size A2 (iv z.vec)) (hn : cmpO x y = -1) :
    Calls Try.prog 4 #[.agg #[.int .i64 x.tag, .slice A0 x.vec.length k0, .string x.str], .agg #[.int .i64 y.tag, .slice A1 y.vec.length k1, .string y.str], .agg #[.int .i64 z.tag, .slice A2 z.vec.length k2, .string z.str]] w fun e w' => e = .returned (.bool true) ∧ Below w.heap.size w w' := by
  have hw1 : IntKind.i64.wrap (-1) = -1 := by decide
  have hw2 : IntKind.i64.wrap 1 = 1 := by decide
  have hw0 : IntKind.i64.wrap 0 = 0 := by decide
  obtain ⟨fx1, fx2⟩ := fx
  obtain ⟨fy1, fy2⟩ := fy
  have hm : cmpO y x = 1 := by have := cmpO_tot.anti y x; omega
  have hls : lessO x y = true := by unfold lessO; rw [hn]; rfl
  have hsm : sameO x y = false := by unfold sameO; rw [hn]; rfl
  have htr := fun h => cmpO_tot.trans x y z (by simp [hn]) h
  obtain ⟨hb, hbx, hby, hbz⟩ := three_box w 24 #[.int .i64 x.tag, .slice A0 x.vec.length k0, .string x.str] #[.int .i64 y.tag, .slice A1 y.vec.length k1, .string y.str] #[.int .i64 z.tag, .slice A2 z.vec.length k2, .string z.str]
  obtain ⟨V, hV⟩ : ∃ V, V = (((w.alloc (.cells #[.int .i64 x.tag, .slice A0 x.vec.length k0, .string x.str] 24)).alloc (.cells #[.int .i64 y.tag, .slice A1 y.vec.length k1, .string y.str] 24)).alloc (.cells #[.int .i64 z.tag, .slice A2 z.vec.length k2, .string z.str] 24)) := ⟨_, rfl⟩
  rw [← hV] at hb hbx hby hbz
  have S0 : ∀ W, Below V.heap.size V W → Sl W w.heap.size A0 (iv x.vec) := fun W hW => s0.below (hb.trans (hW.mono hb.size))
  have S1 : ∀ W, Below V.heap.size V W → Sl W w.heap.size A1 (iv y.vec) := fun W hW => s1.below (hb.trans (hW.mono hb.size))
  have S2 : ∀ W, Below V.heap.size V W → Sl W w.heap.size A2 (iv z.vec) := fun W hW => s2.below (hb.trans (hW.mono hb.size))
  have hz : ∀ W, Below V.heap.size V W → w.heap.size ≤ W.heap.size := fun W hW => Nat.le_trans hb.size hW.size
  have HXY : Hid (∀ W, Below V.heap.size V W → Calls Try.prog 11 #[.agg #[.int .i64 x.tag, .slice A0 x.vec.length k0, .string x.str], .agg #[.int .i64 y.tag, .slice A1 y.vec.length k1, .string y.str]] W (Gives (.int .i64 (-1)) W)) := Lib.hid fun W hW => by
    have h := cmp_any A0 A1 k0 k1 w.heap.size w.heap.size x y W (by omega) (hz W hW) (hz W hW) (S0 W hW) (S1 W hW)
    rwa [hn] at h
  have HYX : Hid (∀ W, Below V.heap.size V W → Calls Try.prog 11 #[.agg #[.int .i64 y.tag, .slice A1 y.vec.length k1, .string y.str], .agg #[.int .i64 x.tag, .slice A0 x.vec.length k0, .string x.str]] W (Gives (.int .i64 (1)) W)) := Lib.hid fun W hW => by
    have h := cmp_any A1 A0 k1 k0 w.heap.size w.heap.size y x W (by omega) (hz W hW) (hz W hW) (S1 W hW) (S0 W hW)
    rwa [hm] at h
  have HYZ : Hid (∀ W, Below V.heap.size V W → Calls Try.prog 11 #[.agg #[.int .i64 y.tag, .slice A1 y.vec.length k1, .string y.str], .agg #[.int .i64 z.tag, .slice A2 z.vec.length k2, .string z.str]] W (Gives (.int .i64 (cmpO y z)) W)) := Lib.hid fun W hW => cmp_any A1 A2 k1 k2 w.heap.size w.heap.size y z W (by omega) (hz W hW) (hz W hW) (S1 W hW) (S2 W hW)
  have HXZ : Hid (∀ W, Below V.heap.size V W → Calls Try.prog 11 #[.agg #[.int .i64 x.tag, .slice A0 x.vec.length k0, .string x.str], .agg #[.int .i64 z.tag, .slice A2 z.vec.length k2, .string z.str]] W (Gives (.int .i64 (cmpO x z)) W)) := Lib.hid fun W hW => cmp_any A0 A2 k0 k2 w.heap.size w.heap.size x z W (by omega) (hz W hW) (hz W hW) (S0 W hW) (S2 W hW)
  have HLess : Hid (∀ W, Below V.heap.size V W → Calls Try.prog 12 #[.agg #[.int .i64 x.tag, .slice A0 x.vec.length k0, .string x.str], .agg #[.int .i64 y.tag, .slice A1 y.vec.length k1, .string y.str]] W (Gives (.bool true) W)) := Lib.hid fun W hW => by
    have h := less_any A0 A1 k0 k1 w.heap.size w.heap.size x y W (by omega) (hz W hW) (hz W hW) (S0 W hW) (S1 W hW)
    rwa [hls] at h
  have HSame : Hid (∀ W, Below V.heap.size V W → Calls Try.prog 13 #[.agg #[.int .i64 x.tag, .slice A0 x.vec.length k0, .string x.str], .agg #[.int .i64 y.tag, .slice A1 y.vec.length k1, .string y.str]] W (Gives (.bool false) W)) := Lib.hid fun W hW => by
    have h := same_any A0 A1 k0 k1 w.heap.size w.heap.size x y W (by omega) (hz W hW) (hz W hW) (S0 W hW) (S1 W hW)
    rwa [hsm] at h
  have HClone : Hid (∀ W, Below V.heap.size V W → Calls Try.prog 14 #[.agg #[.int .i64 x.tag, .slice A0 x.vec.length k0, .string x.str]] W (Cloned x W)) := Lib.hid fun W hW => clone_any A0 k0 w.heap.size x W (by omega) (by omega) (hz W hW) (S0 W hW)
  have HSC : Hid (∀ W A c, Below V.heap.size V W → Sl W W.heap.size A (iv x.vec) → Calls Try.prog 13 #[.agg #[.int .i64 x.tag, .slice A x.vec.length c, .string x.str], .agg #[.int .i64 x.tag, .slice A0 x.vec.length k0, .string x.str]] W (Gives (.bool true) W)) := Lib.hid fun W A c hW hs => by
    have h := same_any A A0 c k0 W.heap.size w.heap.size x x W (by omega) (Nat.le_refl _) (hz W hW) hs (S0 W hW)
    rwa [sameO_rfl] at h
  clear S0 S1 S2 hz hn hm hls hsm fx1 fx2 fy1 fy2 fz s0 s1 s2
  have HT := Lib.hid htr
  have HB := Lib.hid hb
  have hgx := hbx.lt
  have hgy := hby.lt
  have hgz := hbz.lt
  clear htr hb
  go_enter Try.func4, Try.ntmps4
  go_wp2_with (fail)
  rw [← hV]
  clear hV
  refine (on (Below.refl _ _) (HXY.out V (Below.refl _ _))).mono ?_
  rintro e w1 ⟨rfl, hb1⟩
  go_wp2_with (fail)
  have hb1d : Below V.heap.size V w1.drew := hb1.drew
  have hS : ∀ w' : World, Below V.heap.size V w' → (w'.cell? ⟨w.heap.size, 0, none⟩ = some (.int .i64 x.tag) ∧ w'.cell? ⟨w.heap.size, 1, none⟩ = some (.slice A0 x.vec.length k0) ∧ w'.cell? ⟨w.heap.size, 2, none⟩ = some (.string x.str) ∧
      w'.cell? ⟨w.heap.size + 1, 0, none⟩ = some (.int .i64 y.tag) ∧ w'.cell? ⟨w.heap.size + 1, 1, none⟩ = some (.slice A1 y.vec.length k1) ∧ w'.cell? ⟨w.heap.size + 1, 2, none⟩ = some (.string y.str)) := fun w' h => by
    obtain ⟨k0, k1, k2, -⟩ := cells3 (hbx.below h hgx)
    obtain ⟨l0, l1, l2, -⟩ := cells3 (hby.below h hgy)
    exact ⟨k0, k1, k2, l0, l1, l2⟩
  have HS := Lib.hid hS
  clear hS
  obtain ⟨c0, c1, c2, cf⟩ := cells3 (hbx.below hb1 hgx)
  obtain ⟨d0, d1, d2, df⟩ := cells3 (hby.below hb1 hgy)
  have HBX : Hid (∀ W, Below V.heap.size V W → Blk W w.heap.size 24 #[.int .i64 x.tag, .slice A0 x.vec.length k0, .string x.str]) := Lib.hid fun W hW => hbx.below hW hgx
  have HBY : Hid (∀ W, Below V.heap.size V W → Blk W (w.heap.size + 1) 24 #[.int .i64 y.tag, .slice A1 y.vec.length k1, .string y.str]) := Lib.hid fun W hW => hby.below hW hgy
  have HBZ : Hid (∀ W, Below V.heap.size V W → Blk W (w.heap.size + 1 + 1) 24 #[.int .i64 z.tag, .slice A2 z.vec.length k2, .string z.str]) := Lib.hid fun W hW => hbz.below hW hgz
  clear hbx hby hbz hgx hgy hgz
  generalize w.heap.size = g at HS HBX HBY HBZ c0 c1 c2 cf d0 d1 d2 df ⊢
  go_region_held3 (fun w' => w'.cell? ⟨g, 0, none⟩ = some (.int .i64 x.tag) ∧ w'.cell? ⟨g, 1, none⟩ = some (.slice A0 x.vec.length k0) ∧ w'.cell? ⟨g, 2, none⟩ = some (.string x.str) ∧
      w'.cell? ⟨g + 1, 0, none⟩ = some (.int .i64 y.tag) ∧ w'.cell? ⟨g + 1, 1, none⟩ = some (.slice A1 y.vec.length k1) ∧ w'.cell? ⟨g + 1, 2, none⟩ = some (.string y.str))
    ((refine HS.out _ ?_; with_reducible assumption))
    (first
      | (go_at_call 11; (with_reducible refine (on (by with_reducible assumption) (HYX.out _ (by with_reducible assumption))).mono ?_); rintro e w2 ⟨rfl, hb2⟩)
      | (go_at_call 12; (with_reducible refine (on (by with_reducible assumption) (HLess.out _ (by with_reducible assumption))).mono ?_); rintro e w3 ⟨rfl, hb3⟩)
      | (go_at_call 14; (with_reducible refine (cloned_on (by with_reducible assumption) (HClone.out _ (by with_reducible assumption))).mono ?_); rintro e w5 ⟨A5, k5, rfl, hs5, hb5⟩)
      | (go_at_call 13; (with_reducible refine (on (by with_reducible assumption) (HSame.out _ (by with_reducible assumption))).mono ?_); rintro e w4 ⟨rfl, hb4⟩)
      | (go_at_call 13; (with_reducible refine (on (by with_reducible assumption) (HSC.out _ _ _ (by with_reducible assumption) hs5)).mono ?_); rintro e w6 ⟨rfl, hb6⟩))
  obtain ⟨x0, x1, x2, xf⟩ := cells3 (HBX.out w6 hb6)
  obtain ⟨y0, y1, y2, yf⟩ := cells3 (HBY.out w6 hb6)
  obtain ⟨z0, z1, z2, zf⟩ := cells3 (HBZ.out w6 hb6)
  generalize hr : cmpO y z = r at HYZ
  by_cases hp : 0 < r
  · have d : decide (0 < r) = true := decide_eq_true hp
    clear hp
    go_wp2_with (fail)
    refine (on hb6 (HYZ.out w6 hb6)).mono ?_
    rintro e w7 ⟨rfl, hb7⟩
    go_wp2_with (fail)
    refine (on hb7 (lives_any w7)).mono ?_
    rintro e w9 ⟨rfl, hb9⟩
    go_wp2_with (fail)
    go_ret
    exact ⟨rfl, HB.out.trans (hb9.mono HB.out.size)⟩
  · have d : decide (0 < r) = false := decide_eq_false hp
    have hle := HT.out (by omega)
    generalize cmpO x z = s at HXZ hle
    have d2 : decide (s ≤ 0) = true := decide_eq_true hle
    clear hp hle
    go_wp2_with (fail)
    refine (on hb6 (HYZ.out w6 hb6)).mono ?_
    rintro e w7 ⟨rfl, hb7⟩
    obtain ⟨x0, x1, x2, xf⟩ := cells3 (HBX.out w7 hb7)
    obtain ⟨z0, z1, z2, zf⟩ := cells3 (HBZ.out w7 hb7)
    go_wp2_with (fail)
    refine (on hb7 (HXZ.out w7 hb7)).mono ?_
    rintro e w8 ⟨rfl, hb8⟩
    go_wp2_with (fail)
    refine (on hb8 (lives_any w8)).mono ?_
    rintro e w9 ⟨rfl, hb9⟩
    go_wp2_with (fail)
    go_ret
    exact ⟨rfl, HB.out.trans (hb9.mono HB.out.size)⟩
set_option maxHeartbeats 1600000 in
set_option maxRecDepth 100000 in
theorem walkE (A0 A1 A2 : Option Addr) (k0 k1 k2 : Nat) (x y z : Thing) (w : World) (fx : Fits x) (fy : Fits y) (fz : Fits z) (s0 : Sl w w.heap.size A0 (iv x.vec)) (s1 : Sl w w.heap.size A1 (iv y.vec)) (s2 : Sl w w.heap.size A2 (iv z.vec)) (hn : cmpO x y = 0) :
    Calls Try.prog 4 #[.agg #[.int .i64 x.tag, .slice A0 x.vec.length k0, .string x.str], .agg #[.int .i64 y.tag, .slice A1 y.vec.length k1, .string y.str], .agg #[.int .i64 z.tag, .slice A2 z.vec.length k2, .string z.str]] w fun e w' => e = .returned (.bool true) ∧ Below w.heap.size w w' := by
  have hw1 : IntKind.i64.wrap (-1) = -1 := by decide
  have hw2 : IntKind.i64.wrap 1 = 1 := by decide
  have hw0 : IntKind.i64.wrap 0 = 0 := by decide
  obtain ⟨fx1, fx2⟩ := fx
  obtain ⟨fy1, fy2⟩ := fy
  have hm : cmpO y x = 0 := by have := cmpO_tot.anti y x; omega
  have hls : lessO x y = false := by unfold lessO; rw [hn]; rfl
  have hsm : sameO x y = true := by unfold sameO; rw [hn]; rfl
  have htr := fun h => cmpO_tot.trans x y z (by simp [hn]) h
  obtain ⟨hb, hbx, hby, hbz⟩ := three_box w 24 #[.int .i64 x.tag, .slice A0 x.vec.length k0, .string x.str] #[.int .i64 y.tag, .slice A1 y.vec.length k1, .string y.str] #[.int .i64 z.tag, .slice A2 z.vec.length k2, .string z.str]
  obtain ⟨V, hV⟩ : ∃ V, V = (((w.alloc (.cells #[.int .i64 x.tag, .slice A0 x.vec.length k0, .string x.str] 24)).alloc (.cells #[.int .i64 y.tag, .slice A1 y.vec.length k1, .string y.str] 24)).alloc (.cells #[.int .i64 z.tag, .slice A2 z.vec.length k2, .string z.str] 24)) := ⟨_, rfl⟩
  rw [← hV] at hb hbx hby hbz
  have S0 : ∀ W, Below V.heap.size V W → Sl W w.heap.size A0 (iv x.vec) := fun W hW => s0.below (hb.trans (hW.mono hb.size))
  have S1 : ∀ W, Below V.heap.size V W → Sl W w.heap.size A1 (iv y.vec) := fun W hW => s1.below (hb.trans (hW.mono hb.size))
  have S2 : ∀ W, Below V.heap.size V W → Sl W w.heap.size A2 (iv z.vec) := fun W hW => s2.below (hb.trans (hW.mono hb.size))
  have hz : ∀ W, Below V.heap.size V W → w.heap.size ≤ W.heap.size := fun W hW => Nat.le_trans hb.size hW.size
  have HXY : Hid (∀ W, Below V.heap.size V W → Calls Try.prog 11 #[.agg #[.int .i64 x.tag, .slice A0 x.vec.length k0, .string x.str], .agg #[.int .i64 y.tag, .slice A1 y.vec.length k1, .string y.str]] W (Gives (.int .i64 (0)) W)) := Lib.hid fun W hW => by
    have h := cmp_any A0 A1 k0 k1 w.heap.size w.heap.size x y W (by omega) (hz W hW) (hz W hW) (S0 W hW) (S1 W hW)
    rwa [hn] at h
  have HYX : Hid (∀ W, Below V.heap.size V W → Calls Try.prog 11 #[.agg #[.int .i64 y.tag, .slice A1 y.vec.length k1, .string y.str], .agg #[.int .i64 x.tag, .slice A0 x.vec.length k0, .string x.str]] W (Gives (.int .i64 (0)) W)) := Lib.hid fun W hW => by
    have h := cmp_any A1 A0 k1 k0 w.heap.size w.heap.size y x W (by omega) (hz W hW) (hz W hW) (S1 W hW) (S0 W hW)
    rwa [hm] at h
  have HYZ : Hid (∀ W, Below V.heap.size V W → Calls Try.prog 11 #[.agg #[.int .i64 y.tag, .slice A1 y.vec.length k1, .string y.str], .agg #[.int .i64 z.tag, .slice A2 z.vec.length k2, .string z.str]] W (Gives (.int .i64 (cmpO y z)) W)) := Lib.hid fun W hW => cmp_any A1 A2 k1 k2 w.heap.size w.heap.size y z W (by omega) (hz W hW) (hz W hW) (S1 W hW) (S2 W hW)
  have HXZ : Hid (∀ W, Below V.heap.size V W → Calls Try.prog 11 #[.agg #[.int .i64 x.tag, .slice A0 x.vec.length k0, .string x.str], .agg #[.int .i64 z.tag, .slice A2 z.vec.length k2, .string z.str]] W (Gives (.int .i64 (cmpO x z)) W)) := Lib.hid fun W hW => cmp_any A0 A2 k0 k2 w.heap.size w.heap.size x z W (by omega) (hz W hW) (hz W hW) (S0 W hW) (S2 W hW)
  have HLess : Hid (∀ W, Below V.heap.size V W → Calls Try.prog 12 #[.agg #[.int .i64 x.tag, .slice A0 x.vec.length k0, .string x.str], .agg #[.int .i64 y.tag, .slice A1 y.vec.length k1, .string y.str]] W (Gives (.bool false) W)) := Lib.hid fun W hW => by
    have h := less_any A0 A1 k0 k1 w.heap.size w.heap.size x y W (by omega) (hz W hW) (hz W hW) (S0 W hW) (S1 W hW)
    rwa [hls] at h
  have HSame : Hid (∀ W, Below V.heap.size V W → Calls Try.prog 13 #[.agg #[.int .i64 x.tag, .slice A0 x.vec.length k0, .string x.str], .agg #[.int .i64 y.tag, .slice A1 y.vec.length k1, .string y.str]] W (Gives (.bool true) W)) := Lib.hid fun W hW => by
    have h := same_any A0 A1 k0 k1 w.heap.size w.heap.size x y W (by omega) (hz W hW) (hz W hW) (S0 W hW) (S1 W hW)
    rwa [hsm] at h
  have HClone : Hid (∀ W, Below V.heap.size V W → Calls Try.prog 14 #[.agg #[.int .i64 x.tag, .slice A0 x.vec.length k0, .string x.str]] W (Cloned x W)) := Lib.hid fun W hW => clone_any A0 k0 w.heap.size x W (by omega) (by omega) (hz W hW) (S0 W hW)
  have HSC : Hid (∀ W A c, Below V.heap.size V W → Sl W W.heap.size A (iv x.vec) → Calls Try.prog 13 #[.agg #[.int .i64 x.tag, .slice A x.vec.length c, .string x.str], .agg #[.int .i64 x.tag, .slice A0 x.vec.length k0, .string x.str]] W (Gives (.bool true) W)) := Lib.hid fun W A c hW hs => by
    have h := same_any A A0 c k0 W.heap.size w.heap.size x x W (by omega) (Nat.le_refl _) (hz W hW) hs (S0 W hW)
    rwa [sameO_rfl] at h
  clear S0 S1 S2 hz hn hm hls hsm fx1 fx2 fy1 fy2 fz s0 s1 s2
  have HT := Lib.hid htr
  have HB := Lib.hid hb
  have hgx := hbx.lt
  have hgy := hby.lt
  have hgz := hbz.lt
  clear htr hb
  go_enter Try.func4, Try.ntmps4
  go_wp2_with (fail)
  rw [← hV]
  clear hV
  refine (on (Below.refl _ _) (HXY.out V (Below.refl _ _))).mono ?_
  rintro e w1 ⟨rfl, hb1⟩
  go_wp2_with (fail)
  have hb1d : Below V.heap.size V w1.drew := hb1.drew
  have hS : ∀ w' : World, Below V.heap.size V w' → (w'.cell? ⟨w.heap.size, 0, none⟩ = some (.int .i64 x.tag) ∧ w'.cell? ⟨w.heap.size, 1, none⟩ = some (.slice A0 x.vec.length k0) ∧ w'.cell? ⟨w.heap.size, 2, none⟩ = some (.string x.str) ∧
      w'.cell? ⟨w.heap.size + 1, 0, none⟩ = some (.int .i64 y.tag) ∧ w'.cell? ⟨w.heap.size + 1, 1, none⟩ = some (.slice A1 y.vec.length k1) ∧ w'.cell? ⟨w.heap.size + 1, 2, none⟩ = some (.string y.str)) := fun w' h => by
    obtain ⟨k0, k1, k2, -⟩ := cells3 (hbx.below h hgx)
    obtain ⟨l0, l1, l2, -⟩ := cells3 (hby.below h hgy)
    exact ⟨k0, k1, k2, l0, l1, l2⟩
  have HS := Lib.hid hS
  clear hS
  obtain ⟨c0, c1, c2, cf⟩ := cells3 (hbx.below hb1 hgx)
  obtain ⟨d0, d1, d2, df⟩ := cells3 (hby.below hb1 hgy)
  have HBX : Hid (∀ W, Below V.heap.size V W → Blk W w.heap.size 24 #[.int .i64 x.tag, .slice A0 x.vec.length k0, .string x.str]) := Lib.hid fun W hW => hbx.below hW hgx
  have HBY : Hid (∀ W, Below V.heap.size V W → Blk W (w.heap.size + 1) 24 #[.int .i64 y.tag, .slice A1 y.vec.length k1, .string y.str]) := Lib.hid fun W hW => hby.below hW hgy
  have HBZ : Hid (∀ W, Below V.heap.size V W → Blk W (w.heap.size + 1 + 1) 24 #[.int .i64 z.tag, .slice A2 z.vec.length k2, .string z.str]) := Lib.hid fun W hW => hbz.below hW hgz
  clear hbx hby hbz hgx hgy hgz
  generalize w.heap.size = g at HS HBX HBY HBZ c0 c1 c2 cf d0 d1 d2 df ⊢
  go_region_held3 (fun w' => w'.cell? ⟨g, 0, none⟩ = some (.int .i64 x.tag) ∧ w'.cell? ⟨g, 1, none⟩ = some (.slice A0 x.vec.length k0) ∧ w'.cell? ⟨g, 2, none⟩ = some (.string x.str) ∧
      w'.cell? ⟨g + 1, 0, none⟩ = some (.int .i64 y.tag) ∧ w'.cell? ⟨g + 1, 1, none⟩ = some (.slice A1 y.vec.length k1) ∧ w'.cell? ⟨g + 1, 2, none⟩ = some (.string y.str))
    ((refine HS.out _ ?_; with_reducible assumption))
    (first
      | (go_at_call 11; (with_reducible refine (on (by with_reducible assumption) (HYX.out _ (by with_reducible assumption))).mono ?_); rintro e w2 ⟨rfl, hb2⟩)
      | (go_at_call 12; (with_reducible refine (on (by with_reducible assumption) (HLess.out _ (by with_reducible assumption))).mono ?_); rintro e w3 ⟨rfl, hb3⟩)
      | (go_at_call 14; (with_reducible refine (cloned_on (by with_reducible assumption) (HClone.out _ (by with_reducible assumption))).mono ?_); rintro e w5 ⟨A5, k5, rfl, hs5, hb5⟩)
      | (go_at_call 13; (with_reducible refine (on (by with_reducible assumption) (HSame.out _ (by with_reducible assumption))).mono ?_); rintro e w4 ⟨rfl, hb4⟩)
      | (go_at_call 13; (with_reducible refine (on (by with_reducible assumption) (HSC.out _ _ _ (by with_reducible assumption) hs5)).mono ?_); rintro e w6 ⟨rfl, hb6⟩))
  obtain ⟨x0, x1, x2, xf⟩ := cells3 (HBX.out w6 hb6)
  obtain ⟨y0, y1, y2, yf⟩ := cells3 (HBY.out w6 hb6)
  obtain ⟨z0, z1, z2, zf⟩ := cells3 (HBZ.out w6 hb6)
  generalize hr : cmpO y z = r at HYZ
  by_cases hp : 0 < r
  · have d : decide (0 < r) = true := decide_eq_true hp
    clear hp
    go_wp2_with (fail)
    refine (on hb6 (HYZ.out w6 hb6)).mono ?_
    rintro e w7 ⟨rfl, hb7⟩
    go_wp2_with (fail)
    refine (on hb7 (lives_any w7)).mono ?_
    rintro e w9 ⟨rfl, hb9⟩
    go_wp2_with (fail)
    go_ret
    exact ⟨rfl, HB.out.trans (hb9.mono HB.out.size)⟩
  · have d : decide (0 < r) = false := decide_eq_false hp
    have hle := HT.out (by omega)
    generalize cmpO x z = s at HXZ hle
    have d2 : decide (s ≤ 0) = true := decide_eq_true hle
    clear hp hle
    go_wp2_with (fail)
    refine (on hb6 (HYZ.out w6 hb6)).mono ?_
    rintro e w7 ⟨rfl, hb7⟩
    obtain ⟨x0, x1, x2, xf⟩ := cells3 (HBX.out w7 hb7)
    obtain ⟨z0, z1, z2, zf⟩ := cells3 (HBZ.out w7 hb7)
    go_wp2_with (fail)
    refine (on hb7 (HXZ.out w7 hb7)).mono ?_
    rintro e w8 ⟨rfl, hb8⟩
    go_wp2_with (fail)
    refine (on hb8 (lives_any w8)).mono ?_
    rintro e w9 ⟨rfl, hb9⟩
    go_wp2_with (fail)
    go_ret
    exact ⟨rfl, HB.out.trans (hb9.mono HB.out.size)⟩
set_option maxHeartbeats 1600000 in
set_option maxRecDepth 100000 in
theorem walkG (A0 A1 A2 : Option Addr) (k0 k1 k2 : Nat) (x y z : Thing) (w : World) (fx : Fits x) (fy : Fits y) (fz : Fits z) (s0 : Sl w w.heap.size A0 (iv x.vec)) (s1 : Sl w w.heap.size A1 (iv y.vec)) (s2 : Sl w w.heap.size A2 (iv z.vec)) (hn : cmpO x y = 1) :
    Calls Try.prog 4 #[.agg #[.int .i64 x.tag, .slice A0 x.vec.length k0, .string x.str], .agg #[.int .i64 y.tag, .slice A1 y.vec.length k1, .string y.str], .agg #[.int .i64 z.tag, .slice A2 z.vec.length k2, .string z.str]] w fun e w' => e = .returned (.bool true) ∧ Below w.heap.size w w' := by
  have hw1 : IntKind.i64.wrap (-1) = -1 := by decide
  have hw2 : IntKind.i64.wrap 1 = 1 := by decide
  have hw0 : IntKind.i64.wrap 0 = 0 := by decide
  obtain ⟨fx1, fx2⟩ := fx
  obtain ⟨fy1, fy2⟩ := fy
  have hm : cmpO y x = -1 := by have := cmpO_tot.anti y x; omega
  have hls : lessO x y = false := by unfold lessO; rw [hn]; rfl
  have hsm : sameO x y = false := by unfold sameO; rw [hn]; rfl
  have htr : True := trivial
  obtain ⟨hb, hbx, hby, hbz⟩ := three_box w 24 #[.int .i64 x.tag, .slice A0 x.vec.length k0, .string x.str] #[.int .i64 y.tag, .slice A1 y.vec.length k1, .string y.str] #[.int .i64 z.tag, .slice A2 z.vec.length k2, .string z.str]
  obtain ⟨V, hV⟩ : ∃ V, V = (((w.alloc (.cells #[.int .i64 x.tag, .slice A0 x.vec.length k0, .string x.str] 24)).alloc (.cells #[.int .i64 y.tag, .slice A1 y.vec.length k1, .string y.str] 24)).alloc (.cells #[.int .i64 z.tag, .slice A2 z.vec.length k2, .string z.str] 24)) := ⟨_, rfl⟩
  rw [← hV] at hb hbx hby hbz
  have S0 : ∀ W, Below V.heap.size V W → Sl W w.heap.size A0 (iv x.vec) := fun W hW => s0.below (hb.trans (hW.mono hb.size))
  have S1 : ∀ W, Below V.heap.size V W → Sl W w.heap.size A1 (iv y.vec) := fun W hW => s1.below (hb.trans (hW.mono hb.size))
  have S2 : ∀ W, Below V.heap.size V W → Sl W w.heap.size A2 (iv z.vec) := fun W hW => s2.below (hb.trans (hW.mono hb.size))
  have hz : ∀ W, Below V.heap.size V W → w.heap.size ≤ W.heap.size := fun W hW => Nat.le_trans hb.size hW.size
  have HXY : Hid (∀ W, Below V.heap.size V W → Calls Try.prog 11 #[.agg #[.int .i64 x.tag, .slice A0 x.vec.length k0, .string x.str], .agg #[.int .i64 y.tag, .slice A1 y.vec.length k1, .string y.str]] W (Gives (.int .i64 (1)) W)) := Lib.hid fun W hW => by
    have h := cmp_any A0 A1 k0 k1 w.heap.size w.heap.size x y W (by omega) (hz W hW) (hz W hW) (S0 W hW) (S1 W hW)
    rwa [hn] at h
  have HYX : Hid (∀ W, Below V.heap.size V W → Calls Try.prog 11 #[.agg #[.int .i64 y.tag, .slice A1 y.vec.length k1, .string y.str], .agg #[.int .i64 x.tag, .slice A0 x.vec.length k0, .string x.str]] W (Gives (.int .i64 (-1)) W)) := Lib.hid fun W hW => by
    have h := cmp_any A1 A0 k1 k0 w.heap.size w.heap.size y x W (by omega) (hz W hW) (hz W hW) (S1 W hW) (S0 W hW)
    rwa [hm] at h
  have HYZ : Hid (∀ W, Below V.heap.size V W → Calls Try.prog 11 #[.agg #[.int .i64 y.tag, .slice A1 y.vec.length k1, .string y.str], .agg #[.int .i64 z.tag, .slice A2 z.vec.length k2, .string z.str]] W (Gives (.int .i64 (cmpO y z)) W)) := Lib.hid fun W hW => cmp_any A1 A2 k1 k2 w.heap.size w.heap.size y z W (by omega) (hz W hW) (hz W hW) (S1 W hW) (S2 W hW)
  have HXZ : Hid (∀ W, Below V.heap.size V W → Calls Try.prog 11 #[.agg #[.int .i64 x.tag, .slice A0 x.vec.length k0, .string x.str], .agg #[.int .i64 z.tag, .slice A2 z.vec.length k2, .string z.str]] W (Gives (.int .i64 (cmpO x z)) W)) := Lib.hid fun W hW => cmp_any A0 A2 k0 k2 w.heap.size w.heap.size x z W (by omega) (hz W hW) (hz W hW) (S0 W hW) (S2 W hW)
  have HLess : Hid (∀ W, Below V.heap.size V W → Calls Try.prog 12 #[.agg #[.int .i64 x.tag, .slice A0 x.vec.length k0, .string x.str], .agg #[.int .i64 y.tag, .slice A1 y.vec.length k1, .string y.str]] W (Gives (.bool false) W)) := Lib.hid fun W hW => by
    have h := less_any A0 A1 k0 k1 w.heap.size w.heap.size x y W (by omega) (hz W hW) (hz W hW) (S0 W hW) (S1 W hW)
    rwa [hls] at h
  have HSame : Hid (∀ W, Below V.heap.size V W → Calls Try.prog 13 #[.agg #[.int .i64 x.tag, .slice A0 x.vec.length k0, .string x.str], .agg #[.int .i64 y.tag, .slice A1 y.vec.length k1, .string y.str]] W (Gives (.bool false) W)) := Lib.hid fun W hW => by
    have h := same_any A0 A1 k0 k1 w.heap.size w.heap.size x y W (by omega) (hz W hW) (hz W hW) (S0 W hW) (S1 W hW)
    rwa [hsm] at h
  have HClone : Hid (∀ W, Below V.heap.size V W → Calls Try.prog 14 #[.agg #[.int .i64 x.tag, .slice A0 x.vec.length k0, .string x.str]] W (Cloned x W)) := Lib.hid fun W hW => clone_any A0 k0 w.heap.size x W (by omega) (by omega) (hz W hW) (S0 W hW)
  have HSC : Hid (∀ W A c, Below V.heap.size V W → Sl W W.heap.size A (iv x.vec) → Calls Try.prog 13 #[.agg #[.int .i64 x.tag, .slice A x.vec.length c, .string x.str], .agg #[.int .i64 x.tag, .slice A0 x.vec.length k0, .string x.str]] W (Gives (.bool true) W)) := Lib.hid fun W A c hW hs => by
    have h := same_any A A0 c k0 W.heap.size w.heap.size x x W (by omega) (Nat.le_refl _) (hz W hW) hs (S0 W hW)
    rwa [sameO_rfl] at h
  clear S0 S1 S2 hz hn hm hls hsm fx1 fx2 fy1 fy2 fz s0 s1 s2
  have HT := Lib.hid htr
  have HB := Lib.hid hb
  have hgx := hbx.lt
  have hgy := hby.lt
  have hgz := hbz.lt
  clear htr hb
  go_enter Try.func4, Try.ntmps4
  go_wp2_with (fail)
  rw [← hV]
  clear hV
  refine (on (Below.refl _ _) (HXY.out V (Below.refl _ _))).mono ?_
  rintro e w1 ⟨rfl, hb1⟩
  go_wp2_with (fail)
  have hb1d : Below V.heap.size V w1.drew := hb1.drew
  have hS : ∀ w' : World, Below V.heap.size V w' → (w'.cell? ⟨w.heap.size, 0, none⟩ = some (.int .i64 x.tag) ∧ w'.cell? ⟨w.heap.size, 1, none⟩ = some (.slice A0 x.vec.length k0) ∧ w'.cell? ⟨w.heap.size, 2, none⟩ = some (.string x.str) ∧
      w'.cell? ⟨w.heap.size + 1, 0, none⟩ = some (.int .i64 y.tag) ∧ w'.cell? ⟨w.heap.size + 1, 1, none⟩ = some (.slice A1 y.vec.length k1) ∧ w'.cell? ⟨w.heap.size + 1, 2, none⟩ = some (.string y.str)) := fun w' h => by
    obtain ⟨k0, k1, k2, -⟩ := cells3 (hbx.below h hgx)
    obtain ⟨l0, l1, l2, -⟩ := cells3 (hby.below h hgy)
    exact ⟨k0, k1, k2, l0, l1, l2⟩
  have HS := Lib.hid hS
  clear hS
  obtain ⟨c0, c1, c2, cf⟩ := cells3 (hbx.below hb1 hgx)
  obtain ⟨d0, d1, d2, df⟩ := cells3 (hby.below hb1 hgy)
  have HBX : Hid (∀ W, Below V.heap.size V W → Blk W w.heap.size 24 #[.int .i64 x.tag, .slice A0 x.vec.length k0, .string x.str]) := Lib.hid fun W hW => hbx.below hW hgx
  have HBY : Hid (∀ W, Below V.heap.size V W → Blk W (w.heap.size + 1) 24 #[.int .i64 y.tag, .slice A1 y.vec.length k1, .string y.str]) := Lib.hid fun W hW => hby.below hW hgy
  have HBZ : Hid (∀ W, Below V.heap.size V W → Blk W (w.heap.size + 1 + 1) 24 #[.int .i64 z.tag, .slice A2 z.vec.length k2, .string z.str]) := Lib.hid fun W hW => hbz.below hW hgz
  clear hbx hby hbz hgx hgy hgz
  generalize w.heap.size = g at HS HBX HBY HBZ c0 c1 c2 cf d0 d1 d2 df ⊢
  go_region_held3 (fun w' => w'.cell? ⟨g, 0, none⟩ = some (.int .i64 x.tag) ∧ w'.cell? ⟨g, 1, none⟩ = some (.slice A0 x.vec.length k0) ∧ w'.cell? ⟨g, 2, none⟩ = some (.string x.str) ∧
      w'.cell? ⟨g + 1, 0, none⟩ = some (.int .i64 y.tag) ∧ w'.cell? ⟨g + 1, 1, none⟩ = some (.slice A1 y.vec.length k1) ∧ w'.cell? ⟨g + 1, 2, none⟩ = some (.string y.str))
    ((refine HS.out _ ?_; with_reducible assumption))
    (first
      | (go_at_call 11; (with_reducible refine (on (by with_reducible assumption) (HYX.out _ (by with_reducible assumption))).mono ?_); rintro e w2 ⟨rfl, hb2⟩)
      | (go_at_call 12; (with_reducible refine (on (by with_reducible assumption) (HLess.out _ (by with_reducible assumption))).mono ?_); rintro e w3 ⟨rfl, hb3⟩)
      | (go_at_call 14; (with_reducible refine (cloned_on (by with_reducible assumption) (HClone.out _ (by with_reducible assumption))).mono ?_); rintro e w5 ⟨A5, k5, rfl, hs5, hb5⟩)
      | (go_at_call 13; (with_reducible refine (on (by with_reducible assumption) (HSame.out _ (by with_reducible assumption))).mono ?_); rintro e w4 ⟨rfl, hb4⟩)
      | (go_at_call 13; (with_reducible refine (on (by with_reducible assumption) (HSC.out _ _ _ (by with_reducible assumption) hs5)).mono ?_); rintro e w6 ⟨rfl, hb6⟩))
  go_wp2_with (fail)
  refine (on hb6 (lives_any w6)).mono ?_
  rintro e w9 ⟨rfl, hb9⟩
  go_wp2_with (fail)
  go_ret
  exact ⟨rfl, HB.out.trans (hb9.mono HB.out.size)⟩
theorem walk (A0 A1 A2 : Option Addr) (k0 k1 k2 : Nat) (x y z : Thing) (w : World) (fx : Fits x) (fy : Fits y) (fz : Fits z) (s0 : Sl w w.heap.size A0 (iv x.vec)) (s1 : Sl w w.heap.size A1 (iv y.vec)) (s2 : Sl w w.heap.size A2 (iv z.vec)) :
    Calls Try.prog 4 #[ob A0 k0 x, ob A1 k1 y, ob A2 k2 z] w fun e w' => e = .returned (.bool true) ∧ Below w.heap.size w w' := by
  unfold ob
  rcases cmpO_tot.bd x y with h | h | h
  · exact walkL A0 A1 A2 k0 k1 k2 x y z w fx fy fz s0 s1 s2 h
  · exact walkE A0 A1 A2 k0 k1 k2 x y z w fx fy fz s0 s1 s2 h
  · exact walkG A0 A1 A2 k0 k1 k2 x y z w fx fy fz s0 s1 s2 h

theorem lifted (os : Os) (started : os.Started) (H : Type) (enc : TypeId × Value → H) :
    ReturnsInHanded {} Try.checked os 4 .any (Rows.objectOrderSpec.pre6 enc Try.prog Try.f4 Rows.objectOrderRow.domain false) (Rows.objectOrderSpec.post enc Try.prog Try.f4 false true false false) := by
  refine lift (C := Try.checked) (by kernel_rfl) started (by kernel_rfl) Try.func4 rfl (by kernel_rfl) (by kernel_rfl) rfl Try.underlying4
    (fun ds hd => by match ds, hd with | [_, _, _], _ => exact ⟨rfl, rfl, rfl⟩)
    (ChangeSpec.witness6 (enc := enc) (C := Try.checked) false ⟨#[], #[.agg #[.int .i64 0, .slice none 0 0, .string ⟨#[]⟩], .agg #[.int .i64 0, .slice none 0 0, .string ⟨#[]⟩], .agg #[.int .i64 0, .slice none 0 0, .string ⟨#[]⟩]], []⟩ 8 (by kernel_rfl) (by kernel_rfl) (by kernel_rfl) (by kernel_rfl)) ?_
  intro W base args ds before hval0 hA0 hfz hsz
  have hval : ∀ (j : Nat) t v, Try.f4.params[j]? = some t → args[j]? = some v → Value.okWide Try.prog W .any base t v := hval0
  have hA : DataW.TrodAll enc Try.prog W 0 (fun _ => true) true Try.f4.params.toList args.toList ds before := hA0
  rw [Try.params4] at hA hval hsz
  obtain ⟨v0, vs0, d0, ds0, p0, q0, hargs, rfl, rfl, h0, r0⟩ := trodAll_cons hA
  obtain ⟨v1, vs1, d1, ds1, p1, q1, rfl, rfl, rfl, h1, r1⟩ := trodAll_cons r0
  obtain ⟨v2, vs2, d2, ds2, p2, q2, rfl, rfl, rfl, h2, r2⟩ := trodAll_cons r1
  obtain ⟨rfl, rfl, rfl⟩ := trodAll_nil r2
  obtain rfl : args = #[v0, v1, v2] := by cases args; simp_all
  obtain ⟨A0, k0, x, _, _, rfl, hc0, s0, -, rfl, e0⟩ := open_obj Try.underlying24 (by kernel_rfl) (by kernel_rfl) Try.underlying3 Try.underlying22 Try.underlying21 (by kernel_rfl) Try.underlying9 (hval 0 24 v0 rfl rfl) h0
  obtain ⟨A1, k1, y, _, _, rfl, hc1, s1, -, rfl, e1⟩ := open_obj Try.underlying24 (by kernel_rfl) (by kernel_rfl) Try.underlying3 Try.underlying22 Try.underlying21 (by kernel_rfl) Try.underlying9 (hval 1 24 v1 rfl rfl) h1
  obtain ⟨A2, k2, z, _, _, rfl, hc2, s2, -, rfl, e2⟩ := open_obj Try.underlying24 (by kernel_rfl) (by kernel_rfl) Try.underlying3 Try.underlying22 Try.underlying21 (by kernel_rfl) Try.underlying9 (hval 2 24 v2 rfl rfl) h2
  have g0 := reach_obj (j := 0) Try.underlying24 Try.underlying22 (by kernel_rfl) hsz rfl rfl e0
  have g1 := reach_obj (j := 1) Try.underlying24 Try.underlying22 (by kernel_rfl) hsz rfl rfl e1
  have g2 := reach_obj (j := 2) Try.underlying24 Try.underlying22 (by kernel_rfl) hsz rfl rfl e2
  exact walk A0 A1 A2 k0 k1 k2 x y z W g0 g1 g2 s0 s1 s2

theorem proved : Rows.ObjectOrderSaid :=
  OpenClaim.holds_of_wide 4 Try.f4 rfl rfl rfl rfl rfl rfl rfl ⟨rfl, rfl, rfl, rfl, rfl⟩ rfl rfl rfl rfl rfl (by kernel_rfl) Try.func4 (by kernel_rfl)
    (of_decide_eq_true (by kernel_rfl)) (by unfold Func.isWrapper; first | (rw [if_pos (by decide +kernel)]; kernel_rfl) | (rw [if_neg (by decide +kernel)]; exact ⟨rfl, rfl⟩))
    (fun os started H enc _ => lifted os started H enc)
#print axioms proved
end Go.Proofs.Ytlgjbdgolchadaa.objectOrder
