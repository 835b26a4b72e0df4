/-
  Rows of the document's fars that came in.
-/
import Derived.Test.YtikdnpfnijhkkaaFar
import Derived.Test.YtikdnpfnijhkkaaCame
namespace Go.Proofs.Ytikdnpfnijhkkaa.far
open Go.RowKit law bytes only flat came hit spl Go.Sort Go.Shelf
open Go.ChangeShapes Go.WideShapes Go.Deep Go.ChangeAt
set_option linter.unusedVariables false
section
variable {H : Type} {enc : TypeId × Value → H} {P : Program} {w : World} {base : Nat} {held : Bool}
theorem cells_far {fuel : Nat} {t : TypeId} {f0 f1 : Field} {cs : List Value} {y : DataW H × List MemPlace} (ht : P.underlying t = some (.struct #[f0, f1])) (hone : oneCellFields P #[f0, f1] = true) (hC : P.cellsOf t = 2)
    (k0 : P.underlying f0.type = some (.int .i64)) (k1 : P.underlying f1.type = some (.int .i64))
    (h : DataW.trod enc P w base (fun _ => true) held fuel t cs = some y) : ∃ a : Hit, cs = fc a ∧ True := by
  obtain ⟨xs, n, _, hx, hl, hlen, hg⟩ := DataW.trod_struct ht h
  obtain ⟨o0, q0⟩ := hone_of hone 0 f0 rfl
  obtain ⟨o1, q1⟩ := hone_of hone 1 f1 rfl
  match cs, hl.trans hC with
  | [c0, c1], _ =>
    match xs, hlen with
    | [y0, y1], _ =>
      have g0 : DataW.trod enc P w base (fun _ => true) held n f0.type [c0] = some y0 := by simpa [o0, q0] using hg 0 f0 rfl
      have g1 : DataW.trod enc P w base (fun _ => true) held n f1.type [c1] = some y1 := by simpa [o1, q1] using hg 1 f1 rfl
      obtain ⟨a, e0, -, -⟩ := DataW.trod_int k0 g0
      obtain rfl := List.singleton_inj.1 e0
      obtain ⟨b, e1, -, -⟩ := DataW.trod_int k1 g1
      obtain rfl := List.singleton_inj.1 e1
      exact ⟨(a, b), rfl, trivial⟩
end
/-- a row of fars that came in -/
theorem open_fars {H : Type} {enc : TypeId × Value → H} {W : World} {base : Nat} {r : Reach} {b0 : Nat} {v : Value} {d : DataW H} {p : List MemPlace} (hval : Value.okWide Try.prog W r b0 22 v) (h : DataW.Trod enc Try.prog W base (fun _ => true) true 22 v d p) :
    ∃ A c, ∃ l : List Hit, v = .slice A l.length c ∧ Sl W W.heap.size A (fv l) := by
  have k : ∀ (fuel : Nat) (cs : List Value) (y : DataW H × List MemPlace), DataW.trod enc Try.prog W base (fun _ => true) true fuel 31 cs = some y → ∃ p : Hit, cs = fc p ∧ True := fun fuel cs y h =>
    cells_far Try.underlying31 (by kernel_rfl) (by kernel_rfl) Try.underlying3 Try.underlying3 h
  obtain ⟨B, cap, l, rfl, hl, -, hr, hd⟩ := open_row (N := 2) Try.underlying22 (by kernel_rfl) k hval h
  exact ⟨B, cap, l, rfl, Came.sl hr (by decide) fc_len⟩
end Go.Proofs.Ytikdnpfnijhkkaa.far
