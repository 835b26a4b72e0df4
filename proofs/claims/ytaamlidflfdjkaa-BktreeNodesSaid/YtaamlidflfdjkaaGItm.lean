/-
  Several texts in one.
-/
import Derived.Test.YtaamlidflfdjkaaGObk
import Derived.Test.YtaamlidflfdjkaaGLib
import Derived.Deep.LoopGhost
import Derived.Deep.RegionHeld3
import Derived.WalkSpells
import Derived.Lib.Hide
set_option maxRecDepth 100000
/-
  A thing where its numbers lie, as a value.
-/
namespace Go.Proofs.Ytaamlidflfdjkaa.aro
open Go.RowKit law bytes ord obj
set_option linter.unusedVariables false

/-- a thing where it is kept: the slice's address and capacity, too -/
structure Kept where
  x : Thing
  A : Option Addr
  c : Nat
/-- no thing -/
def zK : Kept := ⟨zeroO, none, 0⟩
/-- its value -/
def kV (k : Kept) : Value := .agg #[.int .i64 k.x.tag, .slice k.A k.x.vec.length k.c, .string k.x.str]
end Go.Proofs.Ytaamlidflfdjkaa.aro
/-
  Items: their cells, rows of them; the contract of the document's Same; items that came in.
-/
namespace Go.Proofs.Ytaamlidflfdjkaa.store
open Go.RowKit law bytes only flat nums ord obj came
open aro (Kept zK)
set_option linter.unusedVariables false

/-- a thing that can be copied -/
def Fit (x : Thing) : Prop := x.vec.length * 4 ≤ 140737488355328 ∧ x.str.size ≤ 281474976710656
/-- an item's cells -/
def iE (p : Int × Kept) : List Value := [.int .u64 p.1, .int .i64 p.2.x.tag, .slice p.2.A p.2.x.vec.length p.2.c, .string p.2.x.str]
theorem iE_len (p : Int × Kept) : (iE p).length = 4 := rfl
theorem itemK : ElemK Try.prog 38 4 56 := elemK_mk (z := .agg #[.int .u64 0, .int .i64 0, .slice none 0 0, .string ⟨#[]⟩]) (by kernel_rfl) rfl
theorem iE_one (r : List (Int × Kept)) : ∀ u ∈ r.flatMap iE, u.oneCell' = true := by
  intro u hu
  simp only [List.mem_flatMap, iE, List.mem_cons, List.not_mem_nil, or_false] at hu
  obtain ⟨a, -, rfl | rfl | rfl | rfl⟩ := hu <;> rfl
/-- the things of items -/
def rM (r : List (Int × Kept)) : List (Int × Thing) := r.map fun p => (p.1, p.2.x)
theorem rM_length (r : List (Int × Kept)) : (rM r).length = r.length := by simp [rM]
theorem make_items (n : Nat) (hn : n ≤ 2513169434916) (u : World) : ∃ Z : Array Value, Z.size = n * 4 ∧ (Instr.makeSlice 32 (.int .i64 0) (.int .i64 (n : Int))).run Try.prog u =
    .ok (.slice (some ⟨u.heap.size, 0, none⟩) 0 n) (u.alloc (.cells Z 38)) := by
  obtain ⟨i, z, hi, hz, hsz, hby, hzs⟩ := itemK
  have h := run_make (P := Try.prog) u 32 38 i z Try.underlying32 hi hz .i64 .i64 0 (n : Int) (by omega) (by omega) (by rw [hby]; omega) (by omega)
  simp only [Int.toNat_zero, Int.toNat_natCast] at h
  exact ⟨_, by rw [size_madeCells, hsz], h⟩
theorem itemAt {W : World} {B k : Nat} {A : Option Addr} {q : List (Int × Kept)} (h : Sl W B A (q.flatMap iE)) (hk : k < q.length) : ∃ b o, A = some ⟨b, o, none⟩ ∧ b < B ∧ W.cell? ⟨b, o + k * 4, none⟩ = some (.int .u64 q[k].1) ∧ W.cell? ⟨b, o + k * 4 + 1, none⟩ = some (.int .i64 q[k].2.x.tag) ∧
    W.cell? ⟨b, o + k * 4 + 2, none⟩ = some (.slice q[k].2.A q[k].2.x.vec.length q[k].2.c) ∧ W.cell? ⟨b, o + k * 4 + 3, none⟩ = some (.string q[k].2.x.str) := by
  have hl := flat_length iE_len q
  obtain ⟨b, o, e, hb, hc⟩ := Sl.place h (by rw [hl]; omega)
  have key : ∀ j, (hj : j < 4) → W.cell? ⟨b, o + (k * 4 + j), none⟩ = (iE q[k])[j]? := fun j hj => by
    have h1 := hc (k * 4 + j) (by rw [hl]; omega)
    have h2 := flat_get iE_len q k j hk hj
    rw [List.getElem?_eq_getElem (by rw [hl]; omega)] at h2
    rw [h1, h2]
  exact ⟨b, o, e, hb, key 0 (by decide), key 1 (by decide), key 2 (by decide), key 3 (by decide)⟩
/-- each thing's numbers lie below B -/
def Lie (w : World) (B : Nat) (q : List (Int × Kept)) : Prop := ∀ p ∈ q, Sl w B p.2.A (iv p.2.x.vec) ∧ Fit p.2.x
theorem Lie.below {w w' : World} {B : Nat} {q : List (Int × Kept)} (h : Lie w B q) (hb : Below B w w') : Lie w' B q := fun p hp => ⟨(h p hp).1.below hb, (h p hp).2⟩
section
open Go.ChangeShapes Go.WideShapes Go.Deep Go.ChangeAt
variable {H : Type} {enc : TypeId × Value → H} {P : Program} {w : World} {base : Nat} {held : Bool}
/-- a thing's cells -/
def oE (k : Kept) : List Value := [.int .i64 k.x.tag, .slice k.A k.x.vec.length k.c, .string k.x.str]
/-- a thing and its data -/
def RO (w : World) (k : Kept) (d : DataW H) : Prop := Sl w w.heap.size k.A (iv k.x.vec) ∧ ∃ t0 t1, d = .agg [t0, t1, .lit (.string (tl k.x.str))] ∧ (k.x.vec = [] ∨ ∃ el sp, t1 = .slice el sp ∧ el.length = k.x.vec.length)
def RI (w : World) (p : Int × Kept) (d : DataW H) : Prop := ∃ d0 d1, d = .agg [d0, d1] ∧ RO w p.2 d1
theorem cells_obj {fuel : Nat} {t e : TypeId} {f0 f1 f2 : Field} {cs : List Value} {y : DataW H × List MemPlace} (ht : P.underlying t = some (.struct #[f0, f1, f2])) (hone : oneCellFields P #[f0, f1, f2] = true) (hC : P.cellsOf t = 3)
    (k0 : P.underlying f0.type = some (.int .i64)) (k1 : P.underlying f1.type = some (.slice e)) (ke : P.underlying e = some (.int .i32)) (kc : P.cellsOf e = 1) (k2 : P.underlying f2.type = some .string)
    (h : DataW.trod enc P w base (fun _ => true) held fuel t cs = some y) : ∃ k : Kept, cs = oE k ∧ RO w k y.1 := by
  obtain ⟨xs, n, _, hx, hl, hlen, hg⟩ := DataW.trod_struct ht h
  obtain ⟨o0, q0⟩ := hone_of hone 0 f0 rfl
  obtain ⟨o1, q1⟩ := hone_of hone 1 f1 rfl
  obtain ⟨o2, q2⟩ := hone_of hone 2 f2 rfl
  match cs, hl.trans hC with
  | [c0, c1, c2], _ =>
    match xs, hlen with
    | [y0, y1, y2], _ =>
      have g0 : DataW.trod enc P w base (fun _ => true) held n f0.type [c0] = some y0 := by simpa [o0, q0] using hg 0 f0 rfl
      have g1 : DataW.trod enc P w base (fun _ => true) held n f1.type [c1] = some y1 := by simpa [o1, q1] using hg 1 f1 rfl
      have g2 : DataW.trod enc P w base (fun _ => true) held n f2.type [c2] = some y2 := by simpa [o2, q2] using hg 2 f2 rfl
      obtain ⟨tag, e0, -, w0⟩ := DataW.trod_int k0 g0
      obtain rfl := List.singleton_inj.1 e0
      obtain ⟨A, c, vec, rfl, hc, hs, hb, hd⟩ := open_nums k1 ke kc g1
      obtain ⟨str, e2, z2, w2⟩ := DataW.trod_string k2 g2
      obtain rfl := List.singleton_inj.1 e2
      refine ⟨⟨⟨tag, vec, str⟩, A, c⟩, rfl, hs, y0.1, y1.1, ?_, ?_⟩
      · rw [hx]
        simp only [List.map_cons, List.map_nil, z2]
        rfl
      · rcases hd with ⟨-, -, h, -⟩ | ⟨el, sp, h, h2, -⟩
        · exact .inl h
        · exact .inr ⟨el, sp, h, h2⟩
theorem cells_item {fuel : Nat} {t : TypeId} {f0 f1 : Field} {cs : List Value} {y : DataW H × List MemPlace} (ht : P.underlying t = some (.struct #[f0, f1])) (hC : P.cellsOf t = 4) (hoff : (f0.offset, f1.offset) = (0, 1)) (hsz : (P.cellsOf f0.type, P.cellsOf f1.type) = (1, 3))
    (k0 : P.underlying f0.type = some (.int .u64)) (k1 : ∀ (fuel : Nat) (cs : List Value) (y : DataW H × List MemPlace), DataW.trod enc P w base (fun _ => true) held fuel f1.type cs = some y → ∃ k : Kept, cs = oE k ∧ RO w k y.1)
    (h : DataW.trod enc P w base (fun _ => true) held fuel t cs = some y) : ∃ p : Int × Kept, cs = iE p ∧ RI w p y.1 := by
  obtain ⟨xs, n, _, hx, hl, hlen, hg⟩ := DataW.trod_struct ht h
  simp only [Prod.mk.injEq] at hoff hsz
  obtain ⟨o0, o1⟩ := hoff
  obtain ⟨z0, z1⟩ := hsz
  match cs, hl.trans hC with
  | [c0, c1, c2, c3], _ =>
    match xs, hlen with
    | [y0, y1], _ =>
      have g0 : DataW.trod enc P w base (fun _ => true) held n f0.type [c0] = some y0 := by simpa [o0, z0] using hg 0 f0 rfl
      have g1 : DataW.trod enc P w base (fun _ => true) held n f1.type [c1, c2, c3] = some y1 := by simpa [o1, z1] using hg 1 f1 rfl
      obtain ⟨id, e0, -, -⟩ := DataW.trod_int k0 g0
      obtain rfl := List.singleton_inj.1 e0
      obtain ⟨k, e1, h1⟩ := k1 _ _ _ g1
      refine ⟨(id, k), ?_, y0.1, y1.1, ?_, h1⟩
      · show _ = Value.int .u64 id :: oE k
        rw [← e1]
      · rw [hx]; rfl
theorem fit_obj {t e : TypeId} {f0 f1 f2 : Field} {k : Kept} {d : DataW H} (ht : P.underlying t = some (.struct #[f0, f1, f2])) (k1 : P.underlying f1.type = some (.slice e)) (kb : P.bytesOf e = 4) (h : RO w k d) (hw : ∀ n ∈ d.weights P t, n ≤ reachBytes) : Fit k.x := by
  obtain ⟨-, t0, t1, rfl, hd⟩ := h
  have hr : reachBytes = 140737488351232 := by decide
  simp only [DataW.weights, ht, DataW.weightsEach, List.map_cons, List.map_nil, List.mem_append] at hw
  have h2 := hw (tl k.x.str).length (.inr (.inr (.inl (by simp))))
  rw [tl_len, hr] at h2
  refine ⟨?_, by omega⟩
  rcases hd with h | ⟨el, sp, rfl, h⟩
  · rw [h]; decide
  · have h1 := hw ((el.length + sp.length) * P.bytesOf e) (.inr (.inl (by simp [DataW.weights, k1])))
    rw [kb, hr] at h1
    omega
theorem fit_item {t : TypeId} {f0 f1 : Field} {p : Int × Kept} {d : DataW H} (ht : P.underlying t = some (.struct #[f0, f1])) (k1 : ∀ d1 : DataW H, RO w p.2 d1 → (∀ n ∈ d1.weights P f1.type, n ≤ reachBytes) → Fit p.2.x) (h : RI w p d) (hw : ∀ n ∈ d.weights P t, n ≤ reachBytes) : Fit p.2.x := by
  obtain ⟨d0, d1, rfl, h1⟩ := h
  refine k1 d1 h1 fun n hn => hw n ?_
  simp only [DataW.weights, ht, DataW.weightsEach, List.map_cons, List.map_nil, List.mem_append]
  exact .inr (.inl hn)
end
section
open Go.ChangeShapes Go.WideShapes Go.Deep Go.ChangeAt
variable {H : Type} {enc : TypeId × Value → H} {W : World} {base b0 : Nat} {held : Bool}
theorem obj_in (fuel : Nat) (cs : List Value) (y : DataW H × List MemPlace) (h : DataW.trod enc Try.prog W base (fun _ => true) held fuel 36 cs = some y) : ∃ k : Kept, cs = oE k ∧ RO W k y.1 :=
  cells_obj Try.underlying36 (by kernel_rfl) (by kernel_rfl) Try.underlying3 Try.underlying34 Try.underlying21 (by kernel_rfl) Try.underlying9 h
theorem item_in (fuel : Nat) (cs : List Value) (y : DataW H × List MemPlace) (h : DataW.trod enc Try.prog W base (fun _ => true) held fuel 38 cs = some y) : ∃ p : Int × Kept, cs = iE p ∧ RI W p y.1 :=
  cells_item Try.underlying38 (by kernel_rfl) (by kernel_rfl) (by kernel_rfl) Try.underlying33 obj_in h
theorem obj_fit {k : Kept} {d : DataW H} (h : RO W k d) (hw : ∀ n ∈ d.weights Try.prog 36, n ≤ reachBytes) : Fit k.x := fit_obj Try.underlying36 Try.underlying34 (by kernel_rfl) h hw
theorem item_fit {p : Int × Kept} {d : DataW H} (h : RI W p d) (hw : ∀ n ∈ d.weights Try.prog 38, n ≤ reachBytes) : Fit p.2.x := fit_item Try.underlying38 (fun d1 => obj_fit) h hw
/-- a row of items that came in -/
theorem open_items {r : Reach} {ts : List TypeId} {ds : List (DataW H)} {j : Nat} {v : Value} {d : DataW H} {p : List MemPlace} (hv : Value.okWide Try.prog W r b0 32 v) (h : DataW.Trod enc Try.prog W base (fun _ => true) held 32 v d p)
    (hsz : (DataW.weightsEach Try.prog ts ds).all (· ≤ reachBytes) = true) (hj : ts[j]? = some 32) (hdj : ds[j]? = some d) :
    ∃ A c, ∃ l : List (Int × Kept), v = .slice A l.length c ∧ Came 4 iE W A l ∧ Lie W W.heap.size l ∧ l.length * 56 ≤ 140737488351232 := by
  obtain ⟨A, cap, l, rfl, hr, hd⟩ := open_rowD (N := 4) Try.underlying32 (by kernel_rfl) item_in hv h
  refine ⟨A, cap, l, rfl, hr, ?_⟩
  rcases hd with rfl | ⟨el, sp, rfl, hle, hR⟩
  · exact ⟨fun p hp => by simp at hp, by simp⟩
  · refine ⟨fun p hp => ?_, ?_⟩
    · obtain ⟨i, hi, rfl⟩ := List.getElem_of_mem hp
      obtain ⟨x, hx, hRI⟩ := hR i hi
      exact ⟨by obtain ⟨d0, d1, -, h1⟩ := hRI; exact h1.1, item_fit hRI (weighs_slice hsz hj hdj Try.underlying32 hx)⟩
    · have h2 := sized_slice hsz hj hdj Try.underlying32
      have hr : reachBytes = 140737488351232 := by decide
      rw [show Try.prog.bytesOf 38 = 56 from by kernel_rfl, hr] at h2
      omega
end
end Go.Proofs.Ytaamlidflfdjkaa.store
