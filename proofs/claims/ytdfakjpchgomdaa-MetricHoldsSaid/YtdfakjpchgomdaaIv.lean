/-
  Program-free: slices of numbers of 32 bits: what they read as; one that came in.
-/
import Derived.Test.YtdfakjpchgomdaaDist
import Derived.Test.YtdfakjpchgomdaaBlk
import Derived.Test.YtdfakjpchgomdaaUpto
import Derived.Deep.Slices
import Derived.Deep.Fields
import Derived.ChangeSame
import Derived.JoinedCond
namespace Go.Proofs.Ytdfakjpchgomdaa.dist
open Go.RowKit law bytes
open Go.ChangeShapes Go.WideShapes Go.Deep Go.ChangeAt

def iv (l : List Int) : List Value := l.map fun n => .int .i32 n
theorem iv_length (l : List Int) : (iv l).length = l.length := by simp [iv]
theorem iv_append (l m : List Int) : iv (l ++ m) = iv l ++ iv m := by simp [iv]
theorem iv_one (l : List Int) : ∀ u ∈ iv l, u.oneCell' = true := by
  intro u hu
  simp only [iv, List.mem_map] at hu
  obtain ⟨c, _, rfl⟩ := hu
  rfl
theorem i32_bd {n : Int} (h : (Lit.int .i32 n).wf = true) : -2147483648 ≤ n ∧ n ≤ 2147483647 := by
  simpa [Lit.wf, IntKind.min, IntKind.max, IntKind.signed, IntKind.bits] using h
theorem i64_bd {n : Int} (h : (Lit.int .i64 n).wf = true) : -9223372036854775808 ≤ n ∧ n ≤ 9223372036854775807 := by
  simpa [Lit.wf, IntKind.min, IntKind.max, IntKind.signed, IntKind.bits] using h
section
variable {w : World} {B : Nat} {A : Option Addr} {l : List Int}
theorem Sl.num {k : Nat} (h : Sl w B A (iv l)) (hk : k < l.length) : ∃ ad, A = some ad ∧ ad.block < B ∧ w.cell? (ad.add k) = some (.int .i32 l[k]) := by
  have := h.at_ (k := k) (by rw [iv_length]; exact hk)
  simpa [iv] using this
theorem Sl.nm {k : Nat} (h : Sl w B A (iv l)) (hk : k < l.length) : ∃ ad, A = some ad ∧ ad.block < B ∧ w.cell? (ad.add k) = some (.int .i32 (dist.nm l k)) := by
  obtain ⟨ad, e, hb, hc⟩ := Sl.num h hk
  exact ⟨ad, e, hb, by rw [nm_lt hk]; exact hc⟩
end
section
variable {H : Type} {enc : TypeId × Value → H} {P : Program} {w : World} {base : Nat} {held : Bool}
theorem open_nums {t e : TypeId} {v : Value} {d : DataW H} {p : List MemPlace} (ht : P.underlying t = some (.slice e)) (he : P.underlying e = some (.int .i32)) (hc : P.cellsOf e = 1) {r : Reach} {b0 : Nat} (hv : Value.okWide P w r b0 t v)
    (h : DataW.Trod enc P w base (fun _ => true) held t v d p) :
    ∃ A c l, v = .slice A l.length c ∧ l.length ≤ c ∧ Sl w w.heap.size A (iv l) ∧ Bd l ∧ ((A = none ∧ c = 0 ∧ l = [] ∧ d = .nil) ∨ ∃ el sp, d = .slice el sp ∧ el.length + sp.length = c) := by
  obtain ⟨A, len, cap, rfl⟩ := okWide_slice ht hv
  obtain ⟨fuel, hf⟩ := h
  rcases open_ints ht he hc hf with ⟨hcs, hx⟩ | ⟨a, len', cap', zs, hcs, _, hl, hm, hz, hx, hcell, hwz⟩
  · simp [Value.cells] at hcs
    obtain ⟨rfl, rfl, rfl⟩ := hcs
    injection hx with hd hp
    exact ⟨none, 0, [], rfl, Nat.le_refl _, Sl.nil, Bd_nil, .inl ⟨rfl, rfl, rfl, hd⟩⟩
  · simp [Value.cells] at hcs
    obtain ⟨rfl, rfl, rfl⟩ := hcs
    injection hx with hd hp
    simp only [if_true] at hz
    have ht : (zs.take len).length = len := by simp; omega
    refine ⟨some a, cap, zs.take len, by rw [ht], by omega, fun j u hj => ?_, fun n hn => i32_bd (hwz n (List.mem_of_mem_take hn)), .inr ⟨_, _, hd, by simp [lits]; omega⟩⟩
    simp only [iv, List.getElem?_map, List.getElem?_take] at hj
    split at hj
    · rename_i hlt
      have hlz : j < zs.length := by omega
      have hcj := hcell j hlz
      simp only [List.getElem?_eq_getElem hlz, Option.map_some, Option.some.injEq] at hj
      subst hj
      refine ⟨a, rfl, ?_, by rw [hcj]; simp [List.getD, List.getElem?_eq_getElem hlz]⟩
      have := World.block_lt_of_cell? w _ hcj
      rwa [blk_add] at this
    · cases hj
theorem nums_bulk {H : Type} {A : Option Addr} {c : Nat} {l : List Int} {d : DataW H} (hd : (A = none ∧ c = 0 ∧ l = [] ∧ d = .nil) ∨ ∃ el sp, d = .slice el sp ∧ el.length + sp.length = c) : c ≤ Rows.uptoBulk d := by
  rcases hd with ⟨_, rfl, _⟩ | ⟨el, sp, rfl, rfl⟩
  · omega
  · have := bulk_slice el sp
    omega
end
end Go.Proofs.Ytdfakjpchgomdaa.dist
