/-
  Deeds that came in; what the law DirectDoes keeps from deed to deed.
-/
import Derived.Test.YthcdppfnejfgeaaDirL
import Derived.Test.YthcdppfnejfgeaaDirG
import Derived.Test.YthcdppfnejfgeaaCame
import Derived.Deep.Fields
namespace Go.Proofs.Ythcdppfnejfgeaa.directDoes
open Go.RowKit law bytes only flat direct came
open Go.ChangeShapes Go.WideShapes Go.Deep Go.ChangeAt
set_option linter.unusedVariables false

def dC (x : Bool × Int × Int) : List Value := [.bool x.1, .int .u64 x.2.1, .int .i64 x.2.2]
theorem dC_len (x : Bool × Int × Int) : (dC x).length = 3 := rfl
section
variable {H : Type} {enc : TypeId × Value → H} {P : Program} {w : World} {base : Nat} {held : Bool}
theorem cells_deed {fuel : Nat} {t : TypeId} {f0 f1 f2 : Field} {cs : List Value} {y : DataW H × List MemPlace} (ht : P.underlying t = some (.struct #[f0, f1, f2])) (hone : oneCellFields P #[f0, f1, f2] = true) (hC : P.cellsOf t = 3)
    (k0 : P.underlying f0.type = some .bool) (k1 : P.underlying f1.type = some (.int .u64)) (k2 : P.underlying f2.type = some (.int .i64))
    (h : DataW.trod enc P w base (fun _ => true) held fuel t cs = some y) : ∃ a : Bool × Int × Int, cs = dC a ∧ True := by
  obtain ⟨xs, n, _, hx, hl, hlen, hg⟩ := DataW.trod_struct ht h
  obtain ⟨o0, q0⟩ := hone_of hone 0 f0 rfl
  obtain ⟨o1, q1⟩ := hone_of hone 1 f1 rfl
  obtain ⟨o2, q2⟩ := hone_of hone 2 f2 rfl
  match cs, hl.trans hC with
  | [c0, c1, c2], _ =>
    match xs, hlen with
    | [y0, y1, y2], _ =>
      have g0 : DataW.trod enc P w base (fun _ => true) held n f0.type [c0] = some y0 := by simpa [o0, q0] using hg 0 f0 rfl
      have g1 : DataW.trod enc P w base (fun _ => true) held n f1.type [c1] = some y1 := by simpa [o1, q1] using hg 1 f1 rfl
      have g2 : DataW.trod enc P w base (fun _ => true) held n f2.type [c2] = some y2 := by simpa [o2, q2] using hg 2 f2 rfl
      obtain ⟨a, e0, -⟩ := DataW.trod_bool k0 g0
      obtain rfl := List.singleton_inj.1 e0
      obtain ⟨b, e1, -, -⟩ := DataW.trod_int k1 g1
      obtain rfl := List.singleton_inj.1 e1
      obtain ⟨c, e2, -, -⟩ := DataW.trod_int k2 g2
      obtain rfl := List.singleton_inj.1 e2
      exact ⟨(a, b, c), rfl, trivial⟩
end
section
variable {H : Type} {enc : TypeId × Value → H} {W : World} {base b0 : Nat} {held : Bool}
/-- a row of deeds that came in, as many as reach the law -/
theorem open_deeds {r : Reach} {ts : List TypeId} {ds : List (DataW H)} {j : Nat} {v : Value} {d : DataW H} {p : List MemPlace} (hv : Value.okWide Try.prog W r b0 22 v) (h : DataW.Trod enc Try.prog W base (fun _ => true) held 22 v d p)
    (hsz : (DataW.weightsEach Try.prog ts ds).all (· ≤ reachBytes) = true) (hj : ts[j]? = some 22) (hdj : ds[j]? = some d) :
    ∃ A c, ∃ l : List (Bool × Int × Int), v = .slice A l.length c ∧ Came 3 dC W A l ∧ l.length * 24 ≤ 140737488355328 := by
  have k : ∀ (fuel : Nat) (cs : List Value) (y : DataW H × List MemPlace), DataW.trod enc Try.prog W base (fun _ => true) held fuel 28 cs = some y → ∃ p : Bool × Int × Int, cs = dC p ∧ True := fun fuel cs y h =>
    cells_deed Try.underlying28 (by kernel_rfl) (by kernel_rfl) Try.underlying4 Try.underlying26 Try.underlying3 h
  obtain ⟨B, cap, l, rfl, hl, -, hr, hd⟩ := open_row (N := 3) Try.underlying22 (by kernel_rfl) k hv h
  refine ⟨B, cap, l, rfl, hr, ?_⟩
  rcases hd with rfl | ⟨el, sp, rfl, hle⟩
  · simp
  · have h2 := sized_slice hsz hj hdj Try.underlying22
    rw [show Try.prog.bytesOf 28 = 24 from by kernel_rfl] at h2
    have hr := reachBytes_lt
    omega
end
/-- the directory has the numbers F; the document's own row, read at A, is r -/
structure Md (w : World) (db : Nat) (T : Nat → Prop) (F : List (Int × Int)) (A : Option Addr) (r : List (Int × Int)) (W : World) : Prop where
  dy : Dy W w.heap.size db T F
  row : Away W T A (r.flatMap rE)
  below : Below w.heap.size w W
/-- where the law stands between two deeds -/
def P (w : World) (db k : Nat) (A : Option Addr) (r : List (Int × Int)) (W : World) : Prop := ∃ T F, Md w db T F A r W ∧ F.Perm r ∧ r.length ≤ k
section
variable {w W W2 : World} {db k : Nat} {T : Nat → Prop} {F G r : List (Int × Int)} {A : Option Addr}
theorem Md.on (h : Md w db T F A r W) (o : Below W.heap.size W W2) : Md w db T F A r W2 := ⟨h.dy.below o (Nat.le_refl _), h.row.below o, h.below.trans (o.mono h.below.size)⟩
theorem Md.drew (h : Md w db T F A r W) : Md w db T F A r W.drew := h.on ((Below.refl _ _).drew)
theorem Md.drewN (h : Md w db T F A r W) (n : Nat) : Md w db T F A r (W.drewN n) := h.on (below_drewN' (Below.refl _ _) n)
theorem P.below (h : P w db k A r W) : Below w.heap.size w W := by
  obtain ⟨T, F, h1, -⟩ := h
  exact h1.below
theorem Md.left (h : Md w db T F A r W) (hl : direct.Left W w.heap.size db T G W2) : ∃ T2, Md w db T2 G A r W2 := by
  have hb := hl.below h.dy h.below.size
  obtain ⟨ho, T2, hd, hm⟩ := hl
  exact ⟨T2, hd, h.row.step ho fun i hi hn e => by
    rcases hm i e with e | e
    · exact hn e
    · omega, h.below.trans hb⟩
theorem Md.put (h : Md w db T F A r W) (id s : Int) (hn : F.length ≤ 5864062014806) : Calls Try.prog 9 #[.pointer (some ⟨db, 0, none⟩), .int .u64 id, .int .i64 s] W fun e w' => e = .returned (.bool (!(fd F id).isSome)) ∧ ∃ T2, Md w db T2 (putF F id s) A r w' :=
  (put_any h.dy id s (by omega) h.below.size).mono fun e w' ⟨he, hl⟩ => ⟨he, h.left hl⟩
theorem Md.cut (h : Md w db T F A r W) (id : Int) (hn : F.length ≤ 5864062014806) : Calls Try.prog 7 #[.pointer (some ⟨db, 0, none⟩), .int .u64 id] W fun e w' => e = .returned (.bool (fd F id).isSome) ∧ ∃ T2, Md w db T2 (del F id) A r w' :=
  (cut_any h.dy id (by omega) h.below.size).mono fun e w' ⟨he, hl⟩ => ⟨he, h.left hl⟩
/-- behind the document's own: a row that is new -/
theorem Md.laid {b : Bool} {r2 : List (Int × Int)} {e : Ending} (h : Md w db T F A r W) (hr : RPost W r2 b e W2) : ∃ A2 c2, e = .returned (.tuple #[.slice A2 r2.length c2, .bool b]) ∧ Md w db T F A2 r2 W2 := by
  obtain ⟨A2, c2, he, ho, hb⟩ := hr
  have h2 := h.on hb
  exact ⟨A2, c2, he, h2.dy, Away.made (by decide) ho fun i hi => (h.dy.low hi).2, h2.below⟩
theorem Md.sl (h : Md w db T F A r W) : Sl W W.heap.size A (r.flatMap rE) := h.row.sl
theorem Md.start {T : Nat → Prop} (h1 : Dy W w.heap.size db T []) (hb : Below w.heap.size w W) : P w db 0 none [] W := ⟨T, [], ⟨h1, Away.nil, hb⟩, List.Perm.refl _, Nat.le_refl _⟩
theorem Md.find (h : Md w db T F A r W) (id : Int) : Calls Try.prog 11 #[.pointer (some ⟨db, 0, none⟩), .int .u64 id] W fun e w' => e = .returned (.tuple #[.int .i64 ((fd F id).getD 0), .bool (fd F id).isSome]) ∧ Md w db T F A r w' :=
  (find_dy h.dy id).mono fun e w' ⟨he, hb⟩ => ⟨he, h.on hb⟩
theorem Md.rfind {c : Nat} (h : Md w db T F A r W) (hp : F.Perm r) (id : Int) (hn : r.length ≤ 8796093022208) : Calls Try.prog 12 #[.slice A r.length c, .int .u64 id] W fun e w' => e = .returned (.tuple #[.int .i64 ((fd F id).getD 0), .bool (fd F id).isSome]) ∧ W = w' := by
  have := rfind_any (c := c) h.sl id hn
  rw [fd_perm h.dy.rise hp] at this
  exact this
end
/-- behind what is done by a deed's kind: what both told, the directory and the row -/
def Sw (w : World) (db k : Nat) (s6 s8 s9 : Value) (W : World) : Prop := ∃ (b : Bool) (T : Nat → Prop) (F : List (Int × Int)) (A : Option Addr) (c : Nat) (r : List (Int × Int)),
  s6 = .slice A r.length c ∧ s8 = .bool b ∧ s9 = .bool b ∧ r.length ≤ k + 1 ∧ F.Perm r ∧ Md w db T F A r W
/-- where the law stands at its test: the document's numbers -/
def Q1 (w : World) (db : Nat) (T : Nat → Prop) (F : List (Int × Int)) (A : Option Addr) (r : List (Int × Int)) (A1 : Option Addr) (W : World) : Prop := Md w db T F A r W ∧ Sl W W.heap.size A1 (kv F)
/-- .. and the directory's -/
def Q2 (w : World) (db : Nat) (T : Nat → Prop) (F : List (Int × Int)) (A : Option Addr) (r : List (Int × Int)) (A1 A2 : Option Addr) (W : World) : Prop := Q1 w db T F A r A1 W ∧ Sl W W.heap.size A2 (kv F)
section
variable {w W W2 : World} {db k : Nat} {T : Nat → Prop} {F G r : List (Int × Int)} {A A1 A2 : Option Addr}
theorem Q1.drew (h : Q1 w db T F A r A1 W) : Q1 w db T F A r A1 W.drew := ⟨h.1.drew, h.2⟩
theorem Q1.drewN (h : Q1 w db T F A r A1 W) (n : Nat) : Q1 w db T F A r A1 (W.drewN n) := ⟨h.1.drewN n, h.2⟩
theorem Q2.drew (h : Q2 w db T F A r A1 A2 W) : Q2 w db T F A r A1 A2 W.drew := ⟨h.1.drew, h.2⟩
theorem Q2.drewN (h : Q2 w db T F A r A1 A2 W) (n : Nat) : Q2 w db T F A r A1 A2 (W.drewN n) := ⟨h.1.drewN n, h.2⟩
theorem Md.ids {c : Nat} (h : Md w db T F A r W) (hp : F.Perm r) (hn : r.length ≤ 5864062014806) : Calls Try.prog 13 #[.slice A r.length c] W fun e w' => ∃ A1 c1, e = .returned (.slice A1 r.length c1) ∧ Q1 w db T F A r A1 w' :=
  (rids_any h.sl h.dy.rise hp hn).mono fun e w' ⟨A1, c1, he, hs, hb⟩ => ⟨A1, c1, by rw [he, hp.length_eq], h.on hb, hs⟩
theorem Q1.at_ (h : Q1 w db T F A r A1 W) (i : Int) (hi : -9223372036854775808 ≤ i ∧ i ≤ 9223372036854775807) (hn : F.length ≤ 5864062014806) : Calls Try.prog 14 #[.pointer (some ⟨db, 0, none⟩), .int .i64 i] W fun e w' => e = .returned (.tuple #[.int .u64 ((atp F i).getD 0), .bool (atp F i).isSome]) ∧ Q1 w db T F A r A1 w' :=
  (at_dy h.1.dy i hi (by omega)).mono fun e w' ⟨he, hw⟩ => by subst hw; exact ⟨he, h⟩
theorem Q1.len {n : Nat} (h : Q1 w db T F A r A1 W) (hn : F.length = n) : Calls Try.prog 15 #[.pointer (some ⟨db, 0, none⟩)] W fun e w' => e = .returned (.int .i64 n) ∧ Q1 w db T F A r A1 w' := by
  subst hn
  exact (len_dy h.1.dy).mono fun e w' ⟨he, hw⟩ => by subst hw; exact ⟨he, h⟩
theorem Q1.dids {n : Nat} (h : Q1 w db T F A r A1 W) (hn : F.length = n) (hm : n ≤ 5864062014806) : Calls Try.prog 17 #[.pointer (some ⟨db, 0, none⟩)] W fun e w' => ∃ A2 c2, e = .returned (.slice A2 n c2) ∧ Q2 w db T F A r A1 A2 w' := by
  subst hn
  exact (ids_dy h.1.dy (by omega)).mono fun e w' ⟨A2, c2, he, ho, hb⟩ => ⟨A2, c2, he, ⟨h.1.on hb, h.2.on hb⟩, Sl.of_own ho⟩
theorem Q2.same {n c1 c2 : Nat} (h : Q2 w db T F A r A1 A2 W) (hn : F.length = n) (hm : n ≤ 5864062014806) : Calls Try.prog 16 #[.slice A2 n c2, .slice A1 n c1] W fun e w' => e = .returned (.bool true) ∧ Q1 w db T F A r A1 w' := by
  subst hn
  exact (rsame_any h.2 h.1.2 (by omega)).mono fun e w' ⟨he, hb⟩ => ⟨he, h.1.1.on hb, h.1.2.on hb⟩
theorem Q1.rank {x : Nat} {id : Int} (h : Q1 w db T F A r A1 W) (hx : rk F id = x) (hn : F.length ≤ 5864062014806) : Calls Try.prog 18 #[.pointer (some ⟨db, 0, none⟩), .int .u64 id] W fun e w' => e = .returned (.int .i64 x) ∧ Q1 w db T F A r A1 w' := by
  subst hx
  exact (rank_dy h.1.dy id (by omega)).mono fun e w' ⟨he, hw⟩ => by subst hw; exact ⟨he, h⟩
theorem Q1.rrank {x n c : Nat} {id : Int} (h : Q1 w db T F A r A1 W) (hp : F.Perm r) (hx : rk F id = x) (hn : r.length = n) (hm : n ≤ 5864062014806) : Calls Try.prog 19 #[.slice A n c, .int .u64 id] W fun e w' => e = .returned (.int .i64 x) ∧ Q1 w db T F A r A1 w' := by
  subst hn
  have h2 := rrank_any (c := c) h.1.sl id (by omega)
  rw [rk_perm hp, hx] at h2
  exact h2.mono fun e w' ⟨he, hw⟩ => by subst hw; exact ⟨he, h⟩
theorem Q1.done (h : Q1 w db T F A r A1 W) (hp : F.Perm r) (hk : r.length ≤ k) : P w db k A r W := ⟨T, F, h.1, hp, hk⟩
end
end Go.Proofs.Ythcdppfnejfgeaa.directDoes
