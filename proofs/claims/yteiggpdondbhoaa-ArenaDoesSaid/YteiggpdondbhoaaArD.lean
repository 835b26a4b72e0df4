/-
  Deeds that came in: three numbers each.
-/
import Derived.Test.YteiggpdondbhoaaArT
import Derived.Test.YteiggpdondbhoaaCame
import Derived.Deep.Fields
namespace Go.Proofs.Yteiggpdondbhoaa.arena
open Go.RowKit law bytes only flat came
open Go.ChangeShapes Go.WideShapes Go.Deep Go.ChangeAt
set_option linter.unusedVariables false

def dC (x : Int × Int × Int) : List Value := [.int .i64 x.1, .int .i64 x.2.1, .int .i64 x.2.2]
theorem dC_len (x : Int × Int × Int) : (dC x).length = 3 := rfl
section
variable {H : Type} {enc : TypeId × Value → H} {P : Program} {w : World} {base : Nat} {held : Bool}
theorem cells_deed {fuel : Nat} {t : TypeId} {f0 f1 f2 : Field} {cs : List Value} {y : DataW H × List MemPlace} (ht : P.underlying t = some (.struct #[f0, f1, f2])) (hone : oneCellFields P #[f0, f1, f2] = true) (hC : P.cellsOf t = 3)
    (k0 : P.underlying f0.type = some (.int .i64)) (k1 : P.underlying f1.type = some (.int .i64)) (k2 : P.underlying f2.type = some (.int .i64))
    (h : DataW.trod enc P w base (fun _ => true) held fuel t cs = some y) : ∃ a : Int × Int × Int, cs = dC a ∧ True := by
  obtain ⟨xs, n, _, hx, hl, hlen, hg⟩ := DataW.trod_struct ht h
  obtain ⟨o0, q0⟩ := hone_of hone 0 f0 rfl
  obtain ⟨o1, q1⟩ := hone_of hone 1 f1 rfl
  obtain ⟨o2, q2⟩ := hone_of hone 2 f2 rfl
  match cs, hl.trans hC with
  | [c0, c1, c2], _ =>
    match xs, hlen with
    | [y0, y1, y2], _ =>
      have g0 : DataW.trod enc P w base (fun _ => true) held n f0.type [c0] = some y0 := by simpa [o0, q0] using hg 0 f0 rfl
      have g1 : DataW.trod enc P w base (fun _ => true) held n f1.type [c1] = some y1 := by simpa [o1, q1] using hg 1 f1 rfl
      have g2 : DataW.trod enc P w base (fun _ => true) held n f2.type [c2] = some y2 := by simpa [o2, q2] using hg 2 f2 rfl
      obtain ⟨a, e0, -, -⟩ := DataW.trod_int k0 g0
      obtain rfl := List.singleton_inj.1 e0
      obtain ⟨b, e1, -, -⟩ := DataW.trod_int k1 g1
      obtain rfl := List.singleton_inj.1 e1
      obtain ⟨c, e2, -, -⟩ := DataW.trod_int k2 g2
      obtain rfl := List.singleton_inj.1 e2
      exact ⟨(a, b, c), rfl, trivial⟩
end
section
variable {H : Type} {enc : TypeId × Value → H} {W : World} {base b0 : Nat} {held : Bool}
/-- a row of deeds that came in, as many as reach the law -/
theorem open_deeds {r : Reach} {ts : List TypeId} {ds : List (DataW H)} {j : Nat} {v : Value} {d : DataW H} {p : List MemPlace} (hv : Value.okWide Try.prog W r b0 22 v) (h : DataW.Trod enc Try.prog W base (fun _ => true) held 22 v d p)
    (hsz : (DataW.weightsEach Try.prog ts ds).all (· ≤ reachBytes) = true) (hj : ts[j]? = some 22) (hdj : ds[j]? = some d) :
    ∃ A c, ∃ l : List (Int × Int × Int), v = .slice A l.length c ∧ Came 3 dC W A l ∧ l.length * 24 ≤ 140737488355328 := by
  have k : ∀ (fuel : Nat) (cs : List Value) (y : DataW H × List MemPlace), DataW.trod enc Try.prog W base (fun _ => true) held fuel 30 cs = some y → ∃ p : Int × Int × Int, cs = dC p ∧ True := fun fuel cs y h =>
    cells_deed Try.underlying30 (by kernel_rfl) (by kernel_rfl) Try.underlying3 Try.underlying3 Try.underlying3 h
  obtain ⟨B, cap, l, rfl, hl, -, hr, hd⟩ := open_row (N := 3) Try.underlying22 (by kernel_rfl) k hv h
  refine ⟨B, cap, l, rfl, hr, ?_⟩
  rcases hd with rfl | ⟨el, sp, rfl, hle⟩
  · simp
  · have h2 := sized_slice hsz hj hdj Try.underlying22
    rw [show Try.prog.bytesOf 30 = 24 from by kernel_rfl] at h2
    have hr := reachBytes_lt
    omega
end
/-! ### what a deed leaves of what was put -/
def Q (w : World) (ab m : Nat) (x : Int) (k : Nat) (W : World) : Prop := ∃ T d f, Ar W w.heap.size ab T d f ∧ gt d (m : Int) = some x ∧ d.length ≤ k + 1 ∧ Below w.heap.size w W
section
variable {w W W2 : World} {ab m k : Nat} {x : Int}
theorem Q.on (h : Q w ab m x k W) (o : Below W.heap.size W W2) : Q w ab m x k W2 := by
  obtain ⟨T, d, f, h1, h2, h3, h4⟩ := h
  exact ⟨T, d, f, h1.below o (Nat.le_refl _), h2, h3, h4.trans (o.mono h4.size)⟩
theorem Q.more (h : Q w ab m x k W) : Q w ab m x (k + 1) W := by
  obtain ⟨T, d, f, h1, h2, h3, h4⟩ := h
  exact ⟨T, d, f, h1, h2, by omega, h4⟩
theorem Q.below (h : Q w ab m x k W) : Below w.heap.size w W := by
  obtain ⟨T, d, f, h1, h2, h3, h4⟩ := h
  exact h4
theorem Q.put (h : Q w ab m x k W) (y : Int) (hk : k + 1 ≤ 5864062014806) : Calls Try.prog 7 #[.pointer (some ⟨ab, 0, none⟩), .int .i64 y] W fun e w' => ∃ s : Nat, e = .returned (.int .i64 s) ∧ s ≠ m ∧ Q w ab m x (k + 1) w' := by
  obtain ⟨T, d, f, h1, h2, h3, h4⟩ := h
  refine (put_ar h1 y h4.size (by omega)).mono fun e w' ⟨he, hl⟩ => ?_
  have hb := hl.below h1 h4.size
  obtain ⟨T', h'⟩ := hl.ar
  exact ⟨_, he, put_away h1.inv h2, T', _, _, h', put_stays h1.inv h2 y, by have := putD_length d f y; omega, h4.trans hb⟩
theorem Q.cut (h : Q w ab m x k W) (i : Int) (hi : i ≠ (m : Int)) (hk : k + 1 ≤ 5864062014806) : Calls Try.prog 9 #[.pointer (some ⟨ab, 0, none⟩), .int .i64 i] W fun e w' => ∃ b : Bool, e = .returned (.bool b) ∧ Q w ab m x (k + 1) w' := by
  obtain ⟨T, d, f, h1, h2, h3, h4⟩ := h
  refine (cut_ar h1 i h4.size (by omega)).mono fun e w' ⟨he, hl⟩ => ?_
  have hb := hl.below h1 h4.size
  obtain ⟨T', h'⟩ := hl.ar
  exact ⟨_, he, T', _, _, h', cut_stays hi h2, by rw [cutD_length]; omega, h4.trans hb⟩
theorem Q.set (h : Q w ab m x k W) (i y : Int) (hi : i ≠ (m : Int)) : Calls Try.prog 11 #[.pointer (some ⟨ab, 0, none⟩), .int .i64 i, .int .i64 y] W fun e w' => ∃ b : Bool, e = .returned (.bool b) ∧ Q w ab m x (k + 1) w' := by
  obtain ⟨T, d, f, h1, h2, h3, h4⟩ := h
  refine (set_ar h1 i y).mono fun e w' ⟨he, hl⟩ => ?_
  have hb := hl.below h1 h4.size
  obtain ⟨T', h'⟩ := hl.ar
  exact ⟨_, he, T', _, _, h', set_stays hi h2, by rw [setD_length]; omega, h4.trans hb⟩
theorem Q.get (h : Q w ab m x k W) : Calls Try.prog 13 #[.pointer (some ⟨ab, 0, none⟩), .int .i64 m] W fun e w' => e = .returned (.tuple #[.int .i64 x, .bool true]) ∧ W = w' := by
  obtain ⟨T, d, f, h1, h2, h3, h4⟩ := h
  have := get_ar h1 (m : Int)
  rw [h2] at this
  exact this
theorem Q.start {w1 : World} {T : Nat → Prop} (h1 : Ar w1 w.heap.size ab T [] []) (hb : Below w.heap.size w w1) (x : Int) : Calls Try.prog 7 #[.pointer (some ⟨ab, 0, none⟩), .int .i64 x] w1 fun e w' => e = .returned (.int .i64 0) ∧ Q w ab 0 x 0 w' := by
  refine (put_ar h1 x hb.size (by simp)).mono fun e w' ⟨he, hl⟩ => ?_
  have hb2 := hl.below h1 hb.size
  obtain ⟨T', h'⟩ := hl.ar
  exact ⟨he, T', _, _, h', rfl, Nat.le_refl _, hb.trans hb2⟩
end
end Go.Proofs.Yteiggpdondbhoaa.arena
