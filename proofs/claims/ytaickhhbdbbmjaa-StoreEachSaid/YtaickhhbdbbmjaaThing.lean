/-
  Program-free: things that came in: three cells, the second a slice of numbers of 32 bits.
-/
import Derived.Test.YtaickhhbdbbmjaaOrd
import Derived.Test.YtaickhhbdbbmjaaBlk
import Derived.Test.YtaickhhbdbbmjaaUpto
import Derived.Deep.Slices
import Derived.Deep.Fields
import Derived.ChangeSame
import Derived.JoinedCond
namespace Go.Proofs.Ytaickhhbdbbmjaa.ord
open Go.RowKit law bytes nums
open Go.ChangeShapes Go.WideShapes Go.Deep Go.ChangeAt

def iv (l : List Int) : List Value := l.map fun n => .int .i32 n
theorem iv_length (l : List Int) : (iv l).length = l.length := by simp [iv]
theorem iv_append (l m : List Int) : iv (l ++ m) = iv l ++ iv m := by simp [iv]
theorem iv_one (l : List Int) : ∀ u ∈ iv l, u.oneCell' = true := by
  intro u hu
  simp only [iv, List.mem_map] at hu
  obtain ⟨c, _, rfl⟩ := hu
  rfl
/-- a thing's cells, a thing's value -/
def obs (A : Option Addr) (c : Nat) (x : Thing) : Array Value := #[.int .i64 x.tag, .slice A x.vec.length c, .string x.str]
def ob (A : Option Addr) (c : Nat) (x : Thing) : Value := .agg #[.int .i64 x.tag, .slice A x.vec.length c, .string x.str]
theorem i32_bd {n : Int} (h : (Lit.int .i32 n).wf = true) : -2147483648 ≤ n ∧ n ≤ 2147483647 := by
  simpa [Lit.wf, IntKind.min, IntKind.max, IntKind.signed, IntKind.bits] using h
theorem i64_bd' {n : Int} (h : (Lit.int .i64 n).wf = true) : -9223372036854775808 ≤ n ∧ n ≤ 9223372036854775807 := by
  simpa [Lit.wf, IntKind.min, IntKind.max, IntKind.signed, IntKind.bits] using h
section
variable {w : World} {B : Nat} {A : Option Addr} {l : List Int}
theorem Sl.num {k : Nat} (h : Sl w B A (iv l)) (hk : k < l.length) : ∃ ad, A = some ad ∧ ad.block < B ∧ w.cell? (ad.add k) = some (.int .i32 l[k]) := by
  have := h.at_ (k := k) (by rw [iv_length]; exact hk)
  simpa [iv] using this
end
section
variable {H : Type} {enc : TypeId × Value → H} {P : Program} {w : World} {base : Nat} {held : Bool}
theorem open_nums {fuel : Nat} {t e : TypeId} {v : Value} {y : DataW H × List MemPlace} (ht : P.underlying t = some (.slice e)) (he : P.underlying e = some (.int .i32)) (hc : P.cellsOf e = 1)
    (h : DataW.trod enc P w base (fun _ => true) held fuel t [v] = some y) :
    ∃ A c l, v = .slice A l.length c ∧ l.length ≤ c ∧ Sl w w.heap.size A (iv l) ∧ (∀ n ∈ l, -2147483648 ≤ n ∧ n ≤ 2147483647) ∧ ((A = none ∧ c = 0 ∧ l = [] ∧ y.1 = .nil) ∨ ∃ el sp, y.1 = .slice el sp ∧ el.length = l.length ∧ el.length + sp.length = c) := by
  rcases open_ints ht he hc h with ⟨hcs, hx⟩ | ⟨a, len, cap, zs, hcs, _, hl, hm, hz, hx, hcell, hwz⟩
  · obtain rfl := List.singleton_inj.1 hcs
    exact ⟨none, 0, [], rfl, Nat.le_refl _, Sl.nil, by simp, .inl ⟨rfl, rfl, rfl, by rw [hx]⟩⟩
  · obtain rfl := List.singleton_inj.1 hcs
    simp only [if_true] at hz
    have ht : (zs.take len).length = len := by simp; omega
    refine ⟨some a, cap, zs.take len, by rw [ht], by omega, fun j u hj => ?_, fun n hn => i32_bd (hwz n (List.mem_of_mem_take hn)), .inr ⟨_, _, by rw [hx], by simp [lits], by simp [lits]; omega⟩⟩
    simp only [iv, List.getElem?_map, List.getElem?_take] at hj
    split at hj
    · rename_i hlt
      have hlz : j < zs.length := by omega
      have hcj := hcell j hlz
      simp only [List.getElem?_eq_getElem hlz, Option.map_some, Option.some.injEq] at hj
      subst hj
      refine ⟨a, rfl, ?_, by rw [hcj]; simp [List.getD, List.getElem?_eq_getElem hlz]⟩
      have := World.block_lt_of_cell? w _ hcj
      rwa [blk_add] at this
    · cases hj
/-- a thing by value -/
theorem open_obj {r : Reach} {b0 : Nat} {t e : TypeId} {f0 f1 f2 : Field} {v : Value} {d : DataW H} {p : List MemPlace} (ht : P.underlying t = some (.struct #[f0, f1, f2])) (hone : oneCellFields P #[f0, f1, f2] = true) (hC : P.cellsOf t = 3)
    (k0 : P.underlying f0.type = some (.int .i64)) (k1 : P.underlying f1.type = some (.slice e)) (ke : P.underlying e = some (.int .i32)) (kc : P.cellsOf e = 1) (k2 : P.underlying f2.type = some .string)
    (hv : Value.okWide P w r b0 t v) (h : DataW.Trod enc P w base (fun _ => true) held t v d p) :
    ∃ A c x d0 d1, v = ob A c x ∧ x.vec.length ≤ c ∧ Sl w w.heap.size A (iv x.vec) ∧ Okay x ∧ d = .agg [d0, d1, .lit (.string (tl x.str))] ∧
      ((A = none ∧ c = 0 ∧ x.vec = [] ∧ d1 = .nil) ∨ ∃ el sp, d1 = .slice el sp ∧ el.length = x.vec.length ∧ el.length + sp.length = c) := by
  obtain ⟨cs, rfl, hsz⟩ := okWide_struct ht hv
  obtain ⟨l⟩ := cs
  match l, hsz.trans hC with
  | [c0, c1, c2], _ =>
    obtain ⟨fuel, hf⟩ := h
    obtain ⟨xs, n, _, hx, _, hlen, hg⟩ := DataW.trod_struct ht hf
    obtain ⟨o0, q0⟩ := hone_of hone 0 f0 rfl
    obtain ⟨o1, q1⟩ := hone_of hone 1 f1 rfl
    obtain ⟨o2, q2⟩ := hone_of hone 2 f2 rfl
    match xs, hlen with
    | [y0, y1, y2], _ =>
      have g0 : DataW.trod enc P w base (fun _ => true) held n f0.type [c0] = some y0 := by simpa [Value.cells, o0, q0] using hg 0 f0 rfl
      have g1 : DataW.trod enc P w base (fun _ => true) held n f1.type [c1] = some y1 := by simpa [Value.cells, o1, q1] using hg 1 f1 rfl
      have g2 : DataW.trod enc P w base (fun _ => true) held n f2.type [c2] = some y2 := by simpa [Value.cells, o2, q2] using hg 2 f2 rfl
      obtain ⟨tag, e0, -, w0⟩ := DataW.trod_int k0 g0
      obtain rfl := List.singleton_inj.1 e0
      obtain ⟨A, c, vec, rfl, hc, hs, hb, hd⟩ := open_nums k1 ke kc g1
      obtain ⟨str, e2, z2, w2⟩ := DataW.trod_string k2 g2
      obtain rfl := List.singleton_inj.1 e2
      refine ⟨A, c, ⟨tag, vec, str⟩, y0.1, y1.1, rfl, hc, hs, ⟨i64_bd' w0, hb⟩, ?_, hd⟩
      injection hx with hx1 hx2
      rw [hx1]
      simp only [List.map_cons, List.map_nil, z2]
      rfl
theorem bulk_obj {d0 d1 : DataW H} {x : Thing} {A : Option Addr} {c : Nat} (h : (A = none ∧ c = 0 ∧ x.vec = [] ∧ d1 = .nil) ∨ ∃ el sp, d1 = .slice el sp ∧ el.length = x.vec.length ∧ el.length + sp.length = c) :
    x.vec.length + x.str.size ≤ Rows.uptoBulk (.agg [d0, d1, .lit (.string (tl x.str))] : DataW H) := by
  have hs := tl_len x.str
  simp only [Rows.uptoBulk, Rows.uptoBulkAll, hs]
  rcases h with ⟨_, _, h, rfl⟩ | ⟨el, sp, rfl, h, _⟩
  · rw [h]; simp; omega
  · have := bulk_slice el sp
    omega
theorem reach_obj {t e : TypeId} {f0 f1 f2 : Field} {ts : List TypeId} {ds : List (DataW H)} {d0 d1 : DataW H} {x : Thing} {A : Option Addr} {c j : Nat} (ht : P.underlying t = some (.struct #[f0, f1, f2])) (k1 : P.underlying f1.type = some (.slice e)) (kb : P.bytesOf e = 4)
    (h : (DataW.weightsEach P ts ds).all (· ≤ reachBytes) = true) (hj : ts[j]? = some t) (hdj : ds[j]? = some (.agg [d0, d1, .lit (.string (tl x.str))]))
    (hd : (A = none ∧ c = 0 ∧ x.vec = [] ∧ d1 = .nil) ∨ ∃ el sp, d1 = .slice el sp ∧ el.length = x.vec.length ∧ el.length + sp.length = c) :
    x.vec.length * 4 ≤ 140737488351232 ∧ x.str.size ≤ 140737488351232 := by
  have hs := tl_len x.str
  have hr : reachBytes = 140737488351232 := by decide
  have hin : (DataW.weightsEach P [f0.type, f1.type, f2.type] [d0, d1, .lit (.string (tl x.str))]).all (· ≤ reachBytes) = true := by
    rw [List.all_eq_true] at h ⊢
    intro n hn
    refine h n (DataW.weights_mem_each hj hdj n ?_)
    simp only [DataW.weights, ht]
    exact hn
  have h2 := sized_string hin (j := 2) rfl rfl
  rw [hs, hr] at h2
  refine ⟨?_, h2⟩
  rcases hd with ⟨_, _, h, rfl⟩ | ⟨el, sp, rfl, h, _⟩
  · rw [h]; simp
  · have h1 := sized_slice hin (j := 1) rfl rfl k1
    rw [kb, hr] at h1
    omega
end
end Go.Proofs.Ytaickhhbdbbmjaa.ord
