/-
  The law's argument as it came in (entries, and a row of rows of entries); the document's Open, the closure that asks it; where the law stands.
-/
import Derived.Test.YtjahgiplaogmlaaFrV
import Derived.Test.YtjahgiplaogmlaaFrT
import Derived.Test.YtjahgiplaogmlaaGLib
namespace Go.Proofs.Ytjahgiplaogmlaa.fro
open Go.RowKit law bytes only flat heapM Go.Sort Go.Shelf
open Go.ChangeShapes Go.WideShapes Go.Deep Go.ChangeAt
set_option linter.unusedVariables false
set_option maxRecDepth 100000

section
variable {H : Type} {enc : TypeId × Value → H} {P : Program} {w : World} {base : Nat} {held : Bool}
/-- a row among other cells -/
theorem row_in {α : Type} {N : Nat} {fuel : Nat} {t e : TypeId} {cs : List Value} {y : DataW H × List MemPlace} {cells : α → List Value} {R : α → Prop} (ht : P.underlying t = some (.slice e)) (hC : P.cellsOf e = N)
    (k : ∀ (fuel : Nat) (cs : List Value) (y : DataW H × List MemPlace), DataW.trod enc P w base (fun _ => true) held fuel e cs = some y → ∃ a, cs = cells a ∧ R a)
    (h : DataW.trod enc P w base (fun _ => true) held fuel t cs = some y) :
    ∃ A c, ∃ l : List α, cs = [.slice A l.length c] ∧ l.length ≤ c ∧ l.length ≤ maxLen ∧ (∀ a ∈ l, R a) ∧ came.Came N cells w A l := by
  rcases open_slice ht h with ⟨hcs, hx⟩ | ⟨a, len, cap, m, n, D, Pl, hcs, _, hl, hm, hmm, hx, hi⟩
  · exact ⟨none, 0, [], hcs, Nat.le_refl _, Nat.zero_le _, fun a ha => by simp at ha, fun i hi => absurd hi (by simp)⟩
  · simp only [if_true] at hmm
    have hex : ∀ i, i < len → ∃ q : α, (∀ j, j < N → w.cell? (a.add (i * N + j)) = (cells q)[j]?) ∧ R q := fun i hlt => by
      obtain ⟨cs', hc, hr⟩ := hi i (by omega)
      obtain ⟨q, rfl, hR⟩ := k _ _ _ hr
      rw [hC] at hc
      obtain ⟨-, -, hat⟩ := World.cells?_some hc
      refine ⟨q, fun j hj => ?_, hR⟩
      rw [← Go.Deep.add_add, hat j hj]
    obtain ⟨l, hl2, hR⟩ := came.list_of hex
    refine ⟨some a, cap, l, by rw [hl2]; exact hcs, by omega, by omega, fun q hq => ?_, fun i hi => ⟨a, rfl, (hR i (by omega) hi).1⟩⟩
    obtain ⟨i, hi, rfl⟩ := List.getElem_of_mem hq
    exact (hR i (by omega) hi).2
theorem cells_ent {fuel : Nat} {t : TypeId} {f0 f1 f2 : Field} {cs : List Value} {y : DataW H × List MemPlace} (ht : P.underlying t = some (.struct #[f0, f1, f2])) (hone : oneCellFields P #[f0, f1, f2] = true) (hC : P.cellsOf t = 3)
    (k0 : P.underlying f0.type = some (.int .i64)) (k1 : P.underlying f1.type = some (.int .i64)) (k2 : P.underlying f2.type = some (.int .u64))
    (h : DataW.trod enc P w base (fun _ => true) held fuel t cs = some y) : ∃ a : Ent, cs = ec a ∧ True := by
  obtain ⟨xs, n, _, hx, hl, hlen, hg⟩ := DataW.trod_struct ht h
  obtain ⟨o0, q0⟩ := hone_of hone 0 f0 rfl
  obtain ⟨o1, q1⟩ := hone_of hone 1 f1 rfl
  obtain ⟨o2, q2⟩ := hone_of hone 2 f2 rfl
  match cs, hl.trans hC with
  | [c0, c1, c2], _ =>
    match xs, hlen with
    | [y0, y1, y2], _ =>
      have g0 : DataW.trod enc P w base (fun _ => true) held n f0.type [c0] = some y0 := by simpa [o0, q0] using hg 0 f0 rfl
      have g1 : DataW.trod enc P w base (fun _ => true) held n f1.type [c1] = some y1 := by simpa [o1, q1] using hg 1 f1 rfl
      have g2 : DataW.trod enc P w base (fun _ => true) held n f2.type [c2] = some y2 := by simpa [o2, q2] using hg 2 f2 rfl
      obtain ⟨a, e0, -, -⟩ := DataW.trod_int k0 g0
      obtain rfl := List.singleton_inj.1 e0
      obtain ⟨b, e1, -, -⟩ := DataW.trod_int k1 g1
      obtain rfl := List.singleton_inj.1 e1
      obtain ⟨c, e2, -, -⟩ := DataW.trod_int k2 g2
      obtain rfl := List.singleton_inj.1 e2
      exact ⟨(a, b, c), rfl, trivial⟩
end
/-- a row of entries as a value: where it lies, how much room, what it holds -/
structure REnt where
  A : Option Addr
  c : Nat
  l : List Ent
deriving Inhabited
def rc (r : REnt) : List Value := [.slice r.A r.l.length r.c]
theorem rc_len (r : REnt) : (rc r).length = 1 := rfl
/-- what the law is asked -/
structure Dat where
  f : REnt
  B : Option Addr
  c : Nat
  rows : List REnt
/-- .. by value: two cells -/
def aC (d : Dat) : Array Value := #[.slice d.f.A d.f.l.length d.f.c, .slice d.B d.rows.length d.c]
/-- .. in memory below block B -/
structure Lay (w : World) (B : Nat) (d : Dat) : Prop where
  first : Sl w B d.f.A (d.f.l.flatMap ec)
  rows : Sl w B d.B (d.rows.flatMap rc)
  each : ∀ r ∈ d.rows, Sl w B r.A (r.l.flatMap ec)
theorem Lay.below {w w' : World} {B : Nat} {d : Dat} (h : Lay w B d) (hb : Below B w w') : Lay w' B d := ⟨h.first.below hb, h.rows.below hb, fun r hr => (h.each r hr).below hb⟩
theorem Lay.more {w : World} {B B' : Nat} {d : Dat} (h : Lay w B d) (hB : B ≤ B') : Lay w B' d := ⟨h.first.more hB, h.rows.more hB, fun r hr => (h.each r hr).more hB⟩
/-- .. with how long the rows are at most -/
structure Hyp (w : World) (d : Dat) : Prop where
  lay : Lay w w.heap.size d
  cap : d.rows.length ≤ d.c
  len : d.f.l.length ≤ maxLen ∧ d.rows.length ≤ maxLen ∧ ∀ r ∈ d.rows, r.l.length ≤ maxLen
section
variable {H : Type} {enc : TypeId × Value → H} {W : World} {base b0 : Nat} {held : Bool}
theorem ent_in (fuel : Nat) (cs : List Value) (y : DataW H × List MemPlace) (h : DataW.trod enc Try.prog W base (fun _ => true) held fuel 44 cs = some y) : ∃ a : Ent, cs = ec a ∧ True :=
  cells_ent Try.underlying44 (by kernel_rfl) (by kernel_rfl) Try.underlying3 Try.underlying3 Try.underlying35 h
theorem ents_in (fuel : Nat) (cs : List Value) (y : DataW H × List MemPlace) (h : DataW.trod enc Try.prog W base (fun _ => true) held fuel 22 cs = some y) : ∃ r : REnt, cs = rc r ∧ (r.l.length ≤ maxLen ∧ Sl W W.heap.size r.A (r.l.flatMap ec)) := by
  obtain ⟨A, c, l, e, hc, hm, -, hr⟩ := row_in (N := 3) Try.underlying22 (by kernel_rfl) ent_in h
  exact ⟨⟨A, c, l⟩, e, hm, flat.Came.sl hr (by decide) ec_len⟩
theorem rows_in (fuel : Nat) (cs : List Value) (y : DataW H × List MemPlace) (h : DataW.trod enc Try.prog W base (fun _ => true) held fuel 23 cs = some y) :
    ∃ A c, ∃ l : List REnt, cs = [.slice A l.length c] ∧ l.length ≤ c ∧ l.length ≤ maxLen ∧ (∀ r ∈ l, r.l.length ≤ maxLen ∧ Sl W W.heap.size r.A (r.l.flatMap ec)) ∧ came.Came 1 rc W A l :=
  row_in (N := 1) Try.underlying23 (by kernel_rfl) ents_in h
/-- the law's argument -/
theorem open_graph {r : Reach} {v : Value} {d : DataW H} {p : List MemPlace} (hval : Value.okWide Try.prog W r b0 25 v) (h : DataW.Trod enc Try.prog W base (fun _ => true) held 25 v d p) : ∃ a : Dat, v = .agg (aC a) ∧ Hyp W a := by
  obtain ⟨cs, rfl, hsz⟩ := okWide_struct Try.underlying25 hval
  obtain ⟨fuel, hf⟩ := h
  obtain ⟨xs, n, _, hx, hl, hlen, hg⟩ := DataW.trod_struct Try.underlying25 hf
  have hl2 : (Value.cells (.agg cs)).toList.length = 2 := hl.trans (by kernel_rfl)
  have hcs : (Value.cells (.agg cs)).toList = cs.toList := rfl
  rw [hcs] at hl2 hg
  obtain ⟨L, hL⟩ : ∃ L, cs.toList = L := ⟨_, rfl⟩
  rw [hL] at hl2 hg
  match L, hl2, xs, hlen with
  | [c0, c1], _, [y0, y1], _ =>
    have g0 : DataW.trod enc Try.prog W base (fun _ => true) held n 22 [c0] = some y0 := hg 0 _ rfl
    have g1 : DataW.trod enc Try.prog W base (fun _ => true) held n 23 [c1] = some y1 := hg 1 _ rfl
    obtain ⟨f, e0, hf1, hf2⟩ := ents_in _ _ _ g0
    obtain ⟨B, c, l, e1, hc, hm, hR, hr⟩ := rows_in _ _ _ g1
    refine ⟨⟨f, B, c, l⟩, ?_, ⟨hf2, flat.Came.sl hr (by decide) rc_len, fun r hr => (hR r hr).2⟩, hc, hf1, hm, fun r hr => (hR r hr).1⟩
    have h0 := List.singleton_inj.1 e0
    have h1 := List.singleton_inj.1 e1
    subst h0 h1
    rw [show cs = (cs.toList).toArray from by simp, hL]
    rfl
end
/-- where a row of rows' row stands -/
theorem Sl.rowAt {w : World} {B : Nat} {A : Option Addr} {l : List REnt} {k : Nat} (h : Sl w B A (l.flatMap rc)) (hk : k < l.length) : ∃ b o, A = some ⟨b, o, none⟩ ∧ b < B ∧ w.cell? ⟨b, o + k, none⟩ = some (.slice l[k].A l[k].l.length l[k].c) := by
  have hl : (l.flatMap rc).length = l.length * 1 := flat_length rc_len l
  obtain ⟨b, o, rfl, hb, hc⟩ := Sl.place h (by omega)
  have g := flat_get rc_len l k 0 hk (by omega)
  rw [Nat.mul_one, Nat.add_zero] at g
  have l0 : k < (l.flatMap rc).length := by omega
  have := (List.getElem?_eq_getElem l0).symm.trans g
  have h1 := hc k l0
  rw [Option.some.inj (this.trans rfl : some _ = some (Value.slice l[k].A l[k].l.length l[k].c))] at h1
  exact ⟨b, o, rfl, hb, h1⟩
/-! ### what stands behind a node -/
def bh (rows : List REnt) (n : Int) : REnt := if h : 0 ≤ n ∧ n.toNat < rows.length then rows[n.toNat] else ⟨none, 0, []⟩
theorem bh_in {rows : List REnt} {k : Nat} (h : k < rows.length) : bh rows (k : Int) = rows[k] := by
  unfold bh
  rw [dif_pos ⟨by omega, by simpa using h⟩]
  rfl
theorem bh_out {rows : List REnt} {n : Int} (h : n < 0 ∨ (rows.length : Int) ≤ n) : bh rows n = ⟨none, 0, []⟩ := by
  unfold bh
  rw [dif_neg (by omega)]
set_option maxHeartbeats 800000 in
theorem ropen_any (B : Option Addr) (c : Nat) (rows : List REnt) (n : Int) (w : World) (B0 : Nat) (hB : Sl w B0 B (rows.flatMap rc)) (hm : rows.length ≤ maxLen) :
    Calls Try.prog 16 #[.slice B rows.length c, .int .i64 n] w fun e w' => e = .returned (.slice (bh rows n).A (bh rows n).l.length (bh rows n).c) ∧ w = w' := by
  by_cases h1 : n < 0
  · have HE := Lib.hid (bh_out (rows := rows) (n := n) (.inl h1))
    have d1 : decide (n < 0) = true := decide_eq_true h1
    clear hB
    go_enter Try.func16, Try.ntmps16
    go_wp2_with (fail)
    go_ret
    exact ⟨by rw [HE.out]; rfl, rfl⟩
  · have d1 : decide (n < 0) = false := decide_eq_false h1
    by_cases h2 : (rows.length : Int) ≤ n
    · have HE := Lib.hid (bh_out (rows := rows) (n := n) (.inr h2))
      have d2 : decide ((rows.length : Int) ≤ n) = true := decide_eq_true h2
      clear hB
      go_enter Try.func16, Try.ntmps16
      go_wp2_with (fail)
      go_ret
      exact ⟨by rw [HE.out]; rfl, rfl⟩
    · have d2 : decide ((rows.length : Int) ≤ n) = false := decide_eq_false h2
      obtain ⟨k, rfl⟩ : ∃ k : Nat, n = (k : Int) := ⟨n.toNat, by omega⟩
      have hk : k < rows.length := by omega
      obtain ⟨b, o, rfl, hb, c0⟩ := Sl.rowAt hB hk
      rw [bh_in hk]
      have i1 : (k : Int) < (rows.length : Int) := by omega
      generalize rows[k] = r at c0 ⊢
      clear hB h1 h2
      generalize rows.length = m at *
      go_enter Try.func16, Try.ntmps16
      go_wp2_with (fail)
      go_ret
      exact ⟨rfl, rfl⟩
end Go.Proofs.Ytjahgiplaogmlaa.fro
