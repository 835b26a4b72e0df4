/-
  Items and deeds that came in.
-/
import Derived.Test.YtaickhhbdbbmjaaStU
import Derived.Test.YtaickhhbdbbmjaaCameD
namespace Go.Proofs.Ytaickhhbdbbmjaa.store
open Go.RowKit law bytes only flat nums ord obj came
open aro (Kept zK)
open Go.ChangeShapes Go.WideShapes Go.Deep Go.ChangeAt
set_option linter.unusedVariables false

section
variable {H : Type} {enc : TypeId × Value → H} {P : Program} {w : World} {base : Nat} {held : Bool}
/-- a thing's cells -/
def oE (k : Kept) : List Value := [.int .i64 k.x.tag, .slice k.A k.x.vec.length k.c, .string k.x.str]
/-- a thing and its data -/
def RO (w : World) (k : Kept) (d : DataW H) : Prop := Sl w w.heap.size k.A (iv k.x.vec) ∧ ∃ t0 t1, d = .agg [t0, t1, .lit (.string (tl k.x.str))] ∧ (k.x.vec = [] ∨ ∃ el sp, t1 = .slice el sp ∧ el.length = k.x.vec.length)
def RI (w : World) (p : Int × Kept) (d : DataW H) : Prop := ∃ d0 d1, d = .agg [d0, d1] ∧ RO w p.2 d1
/-- a deed: whether a number is cut, an item -/
def dE (q : Bool × Int × Kept) : List Value := .bool q.1 :: iE q.2
theorem dE_len (q : Bool × Int × Kept) : (dE q).length = 5 := rfl
def RD (w : World) (q : Bool × Int × Kept) (d : DataW H) : Prop := ∃ d0 d1, d = .agg [d0, d1] ∧ RI w q.2 d1
theorem cells_obj {fuel : Nat} {t e : TypeId} {f0 f1 f2 : Field} {cs : List Value} {y : DataW H × List MemPlace} (ht : P.underlying t = some (.struct #[f0, f1, f2])) (hone : oneCellFields P #[f0, f1, f2] = true) (hC : P.cellsOf t = 3)
    (k0 : P.underlying f0.type = some (.int .i64)) (k1 : P.underlying f1.type = some (.slice e)) (ke : P.underlying e = some (.int .i32)) (kc : P.cellsOf e = 1) (k2 : P.underlying f2.type = some .string)
    (h : DataW.trod enc P w base (fun _ => true) held fuel t cs = some y) : ∃ k : Kept, cs = oE k ∧ RO w k y.1 := by
  obtain ⟨xs, n, _, hx, hl, hlen, hg⟩ := DataW.trod_struct ht h
  obtain ⟨o0, q0⟩ := hone_of hone 0 f0 rfl
  obtain ⟨o1, q1⟩ := hone_of hone 1 f1 rfl
  obtain ⟨o2, q2⟩ := hone_of hone 2 f2 rfl
  match cs, hl.trans hC with
  | [c0, c1, c2], _ =>
    match xs, hlen with
    | [y0, y1, y2], _ =>
      have g0 : DataW.trod enc P w base (fun _ => true) held n f0.type [c0] = some y0 := by simpa [o0, q0] using hg 0 f0 rfl
      have g1 : DataW.trod enc P w base (fun _ => true) held n f1.type [c1] = some y1 := by simpa [o1, q1] using hg 1 f1 rfl
      have g2 : DataW.trod enc P w base (fun _ => true) held n f2.type [c2] = some y2 := by simpa [o2, q2] using hg 2 f2 rfl
      obtain ⟨tag, e0, -, w0⟩ := DataW.trod_int k0 g0
      obtain rfl := List.singleton_inj.1 e0
      obtain ⟨A, c, vec, rfl, hc, hs, hb, hd⟩ := open_nums k1 ke kc g1
      obtain ⟨str, e2, z2, w2⟩ := DataW.trod_string k2 g2
      obtain rfl := List.singleton_inj.1 e2
      refine ⟨⟨⟨tag, vec, str⟩, A, c⟩, rfl, hs, y0.1, y1.1, ?_, ?_⟩
      · rw [hx]
        simp only [List.map_cons, List.map_nil, z2]
        rfl
      · rcases hd with ⟨-, -, h, -⟩ | ⟨el, sp, h, h2, -⟩
        · exact .inl h
        · exact .inr ⟨el, sp, h, h2⟩
theorem cells_item {fuel : Nat} {t : TypeId} {f0 f1 : Field} {cs : List Value} {y : DataW H × List MemPlace} (ht : P.underlying t = some (.struct #[f0, f1])) (hC : P.cellsOf t = 4) (hoff : (f0.offset, f1.offset) = (0, 1)) (hsz : (P.cellsOf f0.type, P.cellsOf f1.type) = (1, 3))
    (k0 : P.underlying f0.type = some (.int .u64)) (k1 : ∀ (fuel : Nat) (cs : List Value) (y : DataW H × List MemPlace), DataW.trod enc P w base (fun _ => true) held fuel f1.type cs = some y → ∃ k : Kept, cs = oE k ∧ RO w k y.1)
    (h : DataW.trod enc P w base (fun _ => true) held fuel t cs = some y) : ∃ p : Int × Kept, cs = iE p ∧ RI w p y.1 := by
  obtain ⟨xs, n, _, hx, hl, hlen, hg⟩ := DataW.trod_struct ht h
  simp only [Prod.mk.injEq] at hoff hsz
  obtain ⟨o0, o1⟩ := hoff
  obtain ⟨z0, z1⟩ := hsz
  match cs, hl.trans hC with
  | [c0, c1, c2, c3], _ =>
    match xs, hlen with
    | [y0, y1], _ =>
      have g0 : DataW.trod enc P w base (fun _ => true) held n f0.type [c0] = some y0 := by simpa [o0, z0] using hg 0 f0 rfl
      have g1 : DataW.trod enc P w base (fun _ => true) held n f1.type [c1, c2, c3] = some y1 := by simpa [o1, z1] using hg 1 f1 rfl
      obtain ⟨id, e0, -, -⟩ := DataW.trod_int k0 g0
      obtain rfl := List.singleton_inj.1 e0
      obtain ⟨k, e1, h1⟩ := k1 _ _ _ g1
      refine ⟨(id, k), ?_, y0.1, y1.1, ?_, h1⟩
      · show _ = Value.int .u64 id :: oE k
        rw [← e1]
      · rw [hx]; rfl
theorem cells_deed {fuel : Nat} {t : TypeId} {f0 f1 : Field} {cs : List Value} {y : DataW H × List MemPlace} (ht : P.underlying t = some (.struct #[f0, f1])) (hC : P.cellsOf t = 5) (hoff : (f0.offset, f1.offset) = (0, 1)) (hsz : (P.cellsOf f0.type, P.cellsOf f1.type) = (1, 4))
    (k0 : P.underlying f0.type = some .bool) (k1 : ∀ (fuel : Nat) (cs : List Value) (y : DataW H × List MemPlace), DataW.trod enc P w base (fun _ => true) held fuel f1.type cs = some y → ∃ p : Int × Kept, cs = iE p ∧ RI w p y.1)
    (h : DataW.trod enc P w base (fun _ => true) held fuel t cs = some y) : ∃ q : Bool × Int × Kept, cs = dE q ∧ RD w q y.1 := by
  obtain ⟨xs, n, _, hx, hl, hlen, hg⟩ := DataW.trod_struct ht h
  simp only [Prod.mk.injEq] at hoff hsz
  obtain ⟨o0, o1⟩ := hoff
  obtain ⟨z0, z1⟩ := hsz
  match cs, hl.trans hC with
  | [c0, c1, c2, c3, c4], _ =>
    match xs, hlen with
    | [y0, y1], _ =>
      have g0 : DataW.trod enc P w base (fun _ => true) held n f0.type [c0] = some y0 := by simpa [o0, z0] using hg 0 f0 rfl
      have g1 : DataW.trod enc P w base (fun _ => true) held n f1.type [c1, c2, c3, c4] = some y1 := by simpa [o1, z1] using hg 1 f1 rfl
      obtain ⟨b, e0, -⟩ := DataW.trod_bool k0 g0
      obtain rfl := List.singleton_inj.1 e0
      obtain ⟨p, e1, h1⟩ := k1 _ _ _ g1
      refine ⟨(b, p), ?_, y0.1, y1.1, ?_, h1⟩
      · show _ = Value.bool b :: iE p
        rw [← e1]
      · rw [hx]; rfl
theorem fit_obj {t e : TypeId} {f0 f1 f2 : Field} {k : Kept} {d : DataW H} (ht : P.underlying t = some (.struct #[f0, f1, f2])) (k1 : P.underlying f1.type = some (.slice e)) (kb : P.bytesOf e = 4) (h : RO w k d) (hw : ∀ n ∈ d.weights P t, n ≤ reachBytes) : Fit k.x := by
  obtain ⟨-, t0, t1, rfl, hd⟩ := h
  have hr : reachBytes = 140737488351232 := by decide
  simp only [DataW.weights, ht, DataW.weightsEach, List.map_cons, List.map_nil, List.mem_append] at hw
  have h2 := hw (tl k.x.str).length (.inr (.inr (.inl (by simp))))
  rw [tl_len, hr] at h2
  refine ⟨?_, by omega⟩
  rcases hd with h | ⟨el, sp, rfl, h⟩
  · rw [h]; decide
  · have h1 := hw ((el.length + sp.length) * P.bytesOf e) (.inr (.inl (by simp [DataW.weights, k1])))
    rw [kb, hr] at h1
    omega
theorem fit_item {t : TypeId} {f0 f1 : Field} {p : Int × Kept} {d : DataW H} (ht : P.underlying t = some (.struct #[f0, f1])) (k1 : ∀ d1 : DataW H, RO w p.2 d1 → (∀ n ∈ d1.weights P f1.type, n ≤ reachBytes) → Fit p.2.x) (h : RI w p d) (hw : ∀ n ∈ d.weights P t, n ≤ reachBytes) : Fit p.2.x := by
  obtain ⟨d0, d1, rfl, h1⟩ := h
  refine k1 d1 h1 fun n hn => hw n ?_
  simp only [DataW.weights, ht, DataW.weightsEach, List.map_cons, List.map_nil, List.mem_append]
  exact .inr (.inl hn)
theorem fit_deed {t : TypeId} {f0 f1 : Field} {q : Bool × Int × Kept} {d : DataW H} (ht : P.underlying t = some (.struct #[f0, f1])) (k1 : ∀ d1 : DataW H, RI w q.2 d1 → (∀ n ∈ d1.weights P f1.type, n ≤ reachBytes) → Fit q.2.2.x) (h : RD w q d) (hw : ∀ n ∈ d.weights P t, n ≤ reachBytes) : Fit q.2.2.x := by
  obtain ⟨d0, d1, rfl, h1⟩ := h
  refine k1 d1 h1 fun n hn => hw n ?_
  simp only [DataW.weights, ht, DataW.weightsEach, List.map_cons, List.map_nil, List.mem_append]
  exact .inr (.inl hn)
end
section
variable {H : Type} {enc : TypeId × Value → H} {W : World} {base b0 : Nat} {held : Bool}
theorem obj_in (fuel : Nat) (cs : List Value) (y : DataW H × List MemPlace) (h : DataW.trod enc Try.prog W base (fun _ => true) held fuel 29 cs = some y) : ∃ k : Kept, cs = oE k ∧ RO W k y.1 :=
  cells_obj Try.underlying29 (by kernel_rfl) (by kernel_rfl) Try.underlying3 Try.underlying27 Try.underlying21 (by kernel_rfl) Try.underlying9 h
theorem item_in (fuel : Nat) (cs : List Value) (y : DataW H × List MemPlace) (h : DataW.trod enc Try.prog W base (fun _ => true) held fuel 31 cs = some y) : ∃ p : Int × Kept, cs = iE p ∧ RI W p y.1 :=
  cells_item Try.underlying31 (by kernel_rfl) (by kernel_rfl) (by kernel_rfl) Try.underlying26 obj_in h
theorem obj_fit {k : Kept} {d : DataW H} (h : RO W k d) (hw : ∀ n ∈ d.weights Try.prog 29, n ≤ reachBytes) : Fit k.x := fit_obj Try.underlying29 Try.underlying27 (by kernel_rfl) h hw
theorem item_fit {p : Int × Kept} {d : DataW H} (h : RI W p d) (hw : ∀ n ∈ d.weights Try.prog 31, n ≤ reachBytes) : Fit p.2.x := fit_item Try.underlying31 (fun d1 => obj_fit) h hw
/-- a row of items that came in -/
theorem open_items {r : Reach} {ts : List TypeId} {ds : List (DataW H)} {j : Nat} {v : Value} {d : DataW H} {p : List MemPlace} (hv : Value.okWide Try.prog W r b0 25 v) (h : DataW.Trod enc Try.prog W base (fun _ => true) held 25 v d p)
    (hsz : (DataW.weightsEach Try.prog ts ds).all (· ≤ reachBytes) = true) (hj : ts[j]? = some 25) (hdj : ds[j]? = some d) :
    ∃ A c, ∃ l : List (Int × Kept), v = .slice A l.length c ∧ Came 4 iE W A l ∧ Lie W W.heap.size l ∧ l.length * 56 ≤ 140737488351232 := by
  obtain ⟨A, cap, l, rfl, hr, hd⟩ := open_rowD (N := 4) Try.underlying25 (by kernel_rfl) item_in hv h
  refine ⟨A, cap, l, rfl, hr, ?_⟩
  rcases hd with rfl | ⟨el, sp, rfl, hle, hR⟩
  · exact ⟨fun p hp => by simp at hp, by simp⟩
  · refine ⟨fun p hp => ?_, ?_⟩
    · obtain ⟨i, hi, rfl⟩ := List.getElem_of_mem hp
      obtain ⟨x, hx, hRI⟩ := hR i hi
      exact ⟨by obtain ⟨d0, d1, -, h1⟩ := hRI; exact h1.1, item_fit hRI (weighs_slice hsz hj hdj Try.underlying25 hx)⟩
    · have h2 := sized_slice hsz hj hdj Try.underlying25
      have hr : reachBytes = 140737488351232 := by decide
      rw [show Try.prog.bytesOf 31 = 56 from by kernel_rfl, hr] at h2
      omega
/-- a row of deeds that came in -/
theorem open_deeds {r : Reach} {ts : List TypeId} {ds : List (DataW H)} {j : Nat} {v : Value} {d : DataW H} {p : List MemPlace} (hv : Value.okWide Try.prog W r b0 22 v) (h : DataW.Trod enc Try.prog W base (fun _ => true) held 22 v d p)
    (hsz : (DataW.weightsEach Try.prog ts ds).all (· ≤ reachBytes) = true) (hj : ts[j]? = some 22) (hdj : ds[j]? = some d) :
    ∃ A c, ∃ l : List (Bool × Int × Kept), v = .slice A l.length c ∧ Came 5 dE W A l ∧ (∀ q ∈ l, Sl W W.heap.size q.2.2.A (iv q.2.2.x.vec) ∧ Fit q.2.2.x) ∧ l.length * 64 ≤ 140737488351232 := by
  have k : ∀ (fuel : Nat) (cs : List Value) (y : DataW H × List MemPlace), DataW.trod enc Try.prog W base (fun _ => true) held fuel 33 cs = some y → ∃ q : Bool × Int × Kept, cs = dE q ∧ RD W q y.1 := fun fuel cs y h =>
    cells_deed Try.underlying33 (by kernel_rfl) (by kernel_rfl) (by kernel_rfl) Try.underlying4 item_in h
  obtain ⟨A, cap, l, rfl, hr, hd⟩ := open_rowD (N := 5) Try.underlying22 (by kernel_rfl) k hv h
  refine ⟨A, cap, l, rfl, hr, ?_⟩
  rcases hd with rfl | ⟨el, sp, rfl, hle, hR⟩
  · exact ⟨fun p hp => by simp at hp, by simp⟩
  · refine ⟨fun p hp => ?_, ?_⟩
    · obtain ⟨i, hi, rfl⟩ := List.getElem_of_mem hp
      obtain ⟨x, hx, hRD⟩ := hR i hi
      exact ⟨by obtain ⟨d0, d1, -, e0, e1, -, h1⟩ := hRD; exact h1.1, fit_deed Try.underlying33 (fun d1 => item_fit) hRD (weighs_slice hsz hj hdj Try.underlying22 hx)⟩
    · have h2 := sized_slice hsz hj hdj Try.underlying22
      have hr : reachBytes = 140737488351232 := by decide
      rw [show Try.prog.bytesOf 33 = 64 from by kernel_rfl, hr] at h2
      omega
end
end Go.Proofs.Ytaickhhbdbbmjaa.store
