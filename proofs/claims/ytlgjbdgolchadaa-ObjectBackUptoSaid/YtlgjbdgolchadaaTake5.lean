/-
  A part is read: by the code's reader, and by the document's own.
-/
import Derived.Test.YtlgjbdgolchadaaReads5
import Derived.Test.YtlgjbdgolchadaaRef5
namespace Go.Proofs.Ytlgjbdgolchadaa.code
open Go.RowKit law bytes nums
set_option linter.unusedVariables false

/-- a part was read; the reader alone has turned, and what is new -/
def Took (g : Nat) (s : St) (q : Part) (w : World) (e : Ending) (w' : World) : Prop :=
  e = .returned (.agg #[.int .i64 q.kind, .int .u64 q.n, .int .i64 q.i, .bool q.f, .string q.t, .int .i64 q.low, .int .i64 q.high, .int .i64 q.most]) ∧ w.grownBy w' (some g) ∧ Rd w' g s
theorem three (w : World) (g t : Nat) (a b c : Array Value) (s : St) (hr : Rd w g s) :
    w.grownBy (((w.alloc (.cells a t)).alloc (.cells b t)).alloc (.cells c t)) (some g) ∧ Rd (((w.alloc (.cells a t)).alloc (.cells b t)).alloc (.cells c t)) g s ∧
    Blk (((w.alloc (.cells a t)).alloc (.cells b t)).alloc (.cells c t)) w.heap.size t a ∧ Blk (((w.alloc (.cells a t)).alloc (.cells b t)).alloc (.cells c t)) (w.heap.size + 1) t b ∧ Blk (((w.alloc (.cells a t)).alloc (.cells b t)).alloc (.cells c t)) (w.heap.size + 1 + 1) t c := by
  refine ⟨only_alloc (only_alloc (only_alloc (only_refl w _) _) _) _, ((hr.alloc _).alloc _).alloc _, ((Blk.new w t a).alloc _).alloc _, ?_, ?_⟩
  · have h := (Blk.new (w.alloc (.cells a t)) t b).alloc (.cells c t)
    rwa [show (w.alloc (.cells a t)).heap.size = w.heap.size + 1 from by simp] at h
  · have h := Blk.new ((w.alloc (.cells a t)).alloc (.cells b t)) t c
    rwa [show ((w.alloc (.cells a t)).alloc (.cells b t)).heap.size = w.heap.size + 1 + 1 from by simp] at h
theorem cells8 {w : World} {b t : Nat} {x0 x1 x2 x3 x4 x5 x6 x7 : Value} (h : Blk w b t #[x0, x1, x2, x3, x4, x5, x6, x7]) :
    w.cell? ⟨b, 0, none⟩ = some x0 ∧ w.cell? ⟨b, 1, none⟩ = some x1 ∧ w.cell? ⟨b, 2, none⟩ = some x2 ∧ w.cell? ⟨b, 3, none⟩ = some x3 ∧ w.cell? ⟨b, 4, none⟩ = some x4 ∧ w.cell? ⟨b, 5, none⟩ = some x5 ∧ w.cell? ⟨b, 6, none⟩ = some x6 ∧ w.cell? ⟨b, 7, none⟩ = some x7 ∧
    (∀ i, w.frozen? ⟨b, i, none⟩ = false) := ⟨h.cell 0, h.cell 1, h.cell 2, h.cell 3, h.cell 4, h.cell 5, h.cell 6, h.cell 7, h.frozen⟩
theorem Rd.far {w : World} {g : Nat} {s : St} (h : Rd w g s) {p : Addr} (hp : g < p.block) (u : Value) : Rd (w.setCell p u) g s := by
  obtain ⟨A, c, hb, hc, hs⟩ := h
  exact ⟨A, c, hb.far (Nat.ne_of_lt hp) u, hc, hs.setCell (Nat.le_of_lt hp) u⟩
/-- the reader alone has turned, and what is new -/
def Since (w V : World) (g : Nat) (s : St) : Prop := g < w.heap.size ∧ w.grownBy V (some g) ∧ Rd V g s
theorem Since.set {w V : World} {g : Nat} {s : St} (h : Since w V g s) {b i : Nat} (hb : w.heap.size ≤ b) (u : Value) : Since w (V.setCell ⟨b, i, none⟩ u) g s :=
  ⟨h.1, only_setCell h.2.1 (.inr hb) u, h.2.2.far (Nat.lt_of_lt_of_le h.1 hb) u⟩
theorem Since.eight {w V : World} {g : Nat} {s : St} (h : Since w V g s) {b : Nat} (hb : w.heap.size ≤ b) (u0 u1 u2 u3 u4 u5 u6 u7 : Value) :
    Since w ((((((((V.setCell ⟨b, 0, none⟩ u0).setCell ⟨b, 1, none⟩ u1).setCell ⟨b, 2, none⟩ u2).setCell ⟨b, 3, none⟩ u3).setCell ⟨b, 4, none⟩ u4).setCell ⟨b, 5, none⟩ u5).setCell ⟨b, 6, none⟩ u6).setCell ⟨b, 7, none⟩ u7) g s :=
  (((((((h.set hb u0).set hb u1).set hb u2).set hb u3).set hb u4).set hb u5).set hb u6).set hb u7
theorem Took.mk {g : Nat} {s : St} {q : Part} {w V : World} (h : Since w V g s) {e : Ending} (he : e = .returned (.agg #[.int .i64 q.kind, .int .u64 q.n, .int .i64 q.i, .bool q.f, .string q.t, .int .i64 q.low, .int .i64 q.high, .int .i64 q.most])) : Took g s q w e V :=
  ⟨he, h.2.1, h.2.2⟩
theorem cells2 {w : World} {b t : Nat} {x0 x1 : Value} (h : Blk w b t #[x0, x1]) : w.cell? ⟨b, 0, none⟩ = some x0 ∧ w.cell? ⟨b, 1, none⟩ = some x1 ∧ (∀ i, w.frozen? ⟨b, i, none⟩ = false) := ⟨h.cell 0, h.cell 1, h.frozen⟩
theorem Below.one {B : Nat} {w V : World} (h : Below B w V) {b i : Nat} (hb : B ≤ b) (u : Value) : Below B w (V.setCell ⟨b, i, none⟩ u) := h.setCell (p := ⟨b, i, none⟩) hb u
theorem Below.two {B : Nat} {w V : World} (h : Below B w V) {b : Nat} (hb : B ≤ b) (u0 u1 : Value) : Below B w ((V.setCell ⟨b, 0, none⟩ u0).setCell ⟨b, 1, none⟩ u1) := Below.one (Below.one h hb u0) hb u1
theorem Below.eight {B : Nat} {w V : World} (h : Below B w V) {b : Nat} (hb : B ≤ b) (u0 u1 u2 u3 u4 u5 u6 u7 : Value) :
    Below B w ((((((((V.setCell ⟨b, 0, none⟩ u0).setCell ⟨b, 1, none⟩ u1).setCell ⟨b, 2, none⟩ u2).setCell ⟨b, 3, none⟩ u3).setCell ⟨b, 4, none⟩ u4).setCell ⟨b, 5, none⟩ u5).setCell ⟨b, 6, none⟩ u6).setCell ⟨b, 7, none⟩ u7) :=
  Below.one (Below.one (Below.one (Below.one (Below.one (Below.one (Below.one (Below.one h hb u0) hb u1) hb u2) hb u3) hb u4) hb u5) hb u6) hb u7
end Go.Proofs.Ytlgjbdgolchadaa.code
