/-
  Where pdqsortCmpFunc's loop stands, and what each call of its round comes to there.
-/
import Derived.Test.YtbpahlhmdbahjaaHsoP
import Derived.Test.YtbpahlhmdbahjaaHsoV
import Derived.Test.YtbpahlhmdbahjaaHsoB
import Derived.Test.YtbpahlhmdbahjaaHsoI
namespace Go.Proofs.Ytbpahlhmdbahjaa.hso
open Go.RowKit law bytes only flat hit heapM best Go.Sort Go.Shelf
set_option linter.unusedVariables false

/-- a sort of a part: the heap, its row, the part, what the row held and the world at the call -/
structure Sx where
  hb : Nat
  K : Nat
  v : Value
  cf : Hit → Hit → Int
  base : Nat
  g : Nat
  c : Nat
  D : Nat
  a : Nat
  b : Nat
  d : Array Hit
  w : World
structure Sx.Ok (S : Sx) : Prop where
  swo : SWO (lf S.cf)
  ne : S.hb ≠ S.g
  sz : S.D < 2305843009213693952
/-- what is left over is the part from x to y, whose sorting sorts it all -/
structure Pt (S : Sx) (x y : Nat) (W : World) (dk : Array Hit) : Prop where
  sz : dk.size = S.D
  bel : Go.Sort.Below (lf S.cf) x y dk
  fin : ∀ R, PermIn x y dk R → SortedIn (lf S.cf) x y R → PermIn S.a S.b S.d R ∧ SortedIn (lf S.cf) S.a S.b R
  row : HRow W S.base S.g S.c dk
  cm : Cm S.hb S.K S.v S.cf W
  only : Only (· = S.g) S.w W
  ab : x ≤ y
  bD : y ≤ S.D
def At (S : Sx) (x y : Nat) (W : World) : Prop := ∃ dk, Pt S x y W dk
def Fin (S : Sx) (W : World) : Prop := Only (· = S.g) S.w W ∧ ∃ R, PermIn S.a S.b S.d R ∧ SortedIn (lf S.cf) S.a S.b R ∧ HRow W S.base S.g S.c R
/-- parted at m: either side is sorted on its own -/
def Half (S : Sx) (x m y : Nat) (W : World) : Prop := ∃ d4 : Array Hit, d4.size = S.D ∧ HRow W S.base S.g S.c d4 ∧ Cm S.hb S.K S.v S.cf W ∧ Only (· = S.g) S.w W ∧ x ≤ m ∧ m < y ∧ y ≤ S.D ∧
  Go.Sort.Below (lf S.cf) x m d4 ∧ Go.Sort.Below (lf S.cf) (m + 1) y d4 ∧
  (∀ L, PermIn x m d4 L → SortedIn (lf S.cf) x m L → Go.Sort.Below (lf S.cf) (m + 1) y L ∧ ∀ R, PermIn (m + 1) y L R → SortedIn (lf S.cf) (m + 1) y R → PermIn S.a S.b S.d R ∧ SortedIn (lf S.cf) S.a S.b R) ∧
  (∀ L, PermIn (m + 1) y d4 L → SortedIn (lf S.cf) (m + 1) y L → Go.Sort.Below (lf S.cf) x m L ∧ ∀ R, PermIn x m L R → SortedIn (lf S.cf) x m R → PermIn S.a S.b S.d R ∧ SortedIn (lf S.cf) S.a S.b R)
section
variable {S : Sx} {x y : Nat} {W W' : World} {dk d2 R : Array Hit}
theorem Pt.step (k : S.Ok) (h : Pt S x y W dk) (o : Only (· = S.g) W W') (hp : PermIn x y dk d2) (hr : HRow W' S.base S.g S.c d2) : Pt S x y W' d2 :=
  ⟨hp.1.trans h.sz, h.bel.perm (by rw [h.sz]; exact h.bD) hp, fun R h1 h2 => h.fin R (permIn_trans _ _ _ _ _ hp h1) h2, hr, h.cm.only o k.ne, h.only.trans o fun _ e => .inl e, h.ab, h.bD⟩
theorem Pt.fin_ (h : Pt S x y W dk) (o : Only (· = S.g) W W') (hp : PermIn x y dk R) (hs : SortedIn (lf S.cf) x y R) (hr : HRow W' S.base S.g S.c R) : Fin S W' :=
  ⟨h.only.trans o fun _ e => .inl e, R, (h.fin R hp hs).1, (h.fin R hp hs).2, hr⟩
theorem Pt.bs (h : Pt S x y W dk) : y ≤ dk.size := by rw [h.sz]; exact h.bD
theorem Pt.ss (k : S.Ok) (h : Pt S x y W dk) : dk.size < 2305843009213693952 := by rw [h.sz]; exact k.sz
def sl (S : Sx) : Value := .slice (some ⟨S.g, 0, none⟩) S.D S.c

theorem c_ins (k : S.Ok) (h : At S x y W) : Calls Try.prog 43 #[.slice (some ⟨S.g, 0, none⟩) S.D S.c, .int .i64 x, .int .i64 y, FV S.hb] W fun e w' => e = .returned (.tuple #[]) ∧ Fin S w' := by
  obtain ⟨dk, h⟩ := h
  have := insertion_any h.cm h.row k.ne x y h.ab h.bs (h.ss k)
  rw [h.sz] at this
  have hs := insertionSort_holds (lt := lf S.cf) k.swo dk x y h.ab h.bs
  exact this.mono fun e w' ⟨he, ho, hr⟩ => ⟨he, h.fin_ ho hs.1 hs.2 hr⟩
theorem c_heap (k : S.Ok) (h : At S x y W) (hxy : x < y) : Calls Try.prog 44 #[.slice (some ⟨S.g, 0, none⟩) S.D S.c, .int .i64 x, .int .i64 y, FV S.hb] W fun e w' => e = .returned (.tuple #[]) ∧ Fin S w' := by
  obtain ⟨dk, h⟩ := h
  have := heapsort_any h.cm h.row k.ne x y hxy h.bs (h.ss k)
  rw [h.sz] at this
  have hs := heapSort_holds (lt := lf S.cf) k.swo dk x y h.ab h.bs
  exact this.mono fun e w' ⟨he, ho, hr⟩ => ⟨he, h.fin_ ho hs.1 hs.2 hr⟩
theorem c_brk (k : S.Ok) (h : At S x y W) (hxy : x + 12 < y) : Calls Try.prog 45 #[.slice (some ⟨S.g, 0, none⟩) S.D S.c, .int .i64 x, .int .i64 y, FV S.hb] W fun e w' => e = .returned (.tuple #[]) ∧ At S x y w' := by
  obtain ⟨dk, h⟩ := h
  have := break_any (hb := S.hb) (K := S.K) (v := S.v) (cf := S.cf) h.row (FV S.hb) x y hxy h.bs (h.ss k)
  rw [h.sz] at this
  exact this.mono fun e w' ⟨he, ho, d', hp, hr⟩ => ⟨he, d', h.step k ho hp hr⟩
theorem c_piv (k : S.Ok) (h : At S x y W) (hxy : x + 12 < y) : Calls Try.prog 46 #[.slice (some ⟨S.g, 0, none⟩) S.D S.c, .int .i64 x, .int .i64 y, FV S.hb] W fun e w' => ∃ (p : Nat) (t : Int), e = .returned (.tuple #[.int .i64 p, .int .i64 t]) ∧ x ≤ p ∧ p < y ∧ At S x y w' := by
  obtain ⟨dk, h⟩ := h
  have := pivot_any h.cm h.row x y hxy h.bs (h.ss k)
  rw [h.sz] at this
  exact this.mono fun e w' ⟨p, t, he, h1, h2, hb⟩ => ⟨p, t, he, h1, h2, dk, h.step k (Only.of_below hb (Nat.le_refl _) _) (permIn_refl _ _ _) (h.row.below hb (Nat.le_refl _))⟩
theorem c_rev (k : S.Ok) (h : At S x y W) (hxy : x < y) : Calls Try.prog 47 #[.slice (some ⟨S.g, 0, none⟩) S.D S.c, .int .i64 x, .int .i64 y, FV S.hb] W fun e w' => e = .returned (.tuple #[]) ∧ At S x y w' := by
  obtain ⟨dk, h⟩ := h
  have := reverse_any h.row (FV S.hb) x y hxy h.bs (h.ss k)
  rw [h.sz] at this
  exact this.mono fun e w' ⟨he, ho, hr⟩ => ⟨he, _, h.step k ho (reverseRange_holds dk x y h.ab h.bs) hr⟩
theorem c_par (k : S.Ok) (h : At S x y W) (hxy : x < y) : Calls Try.prog 48 #[.slice (some ⟨S.g, 0, none⟩) S.D S.c, .int .i64 x, .int .i64 y, FV S.hb] W fun e w' => ∃ o : Bool, e = .returned (.bool o) ∧ (o = true → Fin S w') ∧ At S x y w' := by
  obtain ⟨dk, h⟩ := h
  have := partial_any h.cm h.row k.ne x y hxy h.bs (h.ss k)
  rw [h.sz] at this
  have hs := partialInsertionSort_holds (lt := lf S.cf) k.swo dk x y hxy h.bs h.bel
  exact this.mono fun e w' ⟨he, ho, hr⟩ => ⟨_, he, fun e2 => h.fin_ ho hs.1 (hs.2 e2) hr, _, h.step k ho hs.1 hr⟩
theorem c_eq (k : S.Ok) (h : Pt S x y W dk) (p : Nat) (h0 : 0 < x) (h1 : x ≤ p) (h2 : p < y) (hl : lf S.cf dk[x - 1]! dk[p]! = false) : Calls Try.prog 49 #[.slice (some ⟨S.g, 0, none⟩) S.D S.c, .int .i64 x, .int .i64 y, .int .i64 p, FV S.hb] W fun e w' => ∃ m : Nat, e = .returned (.int .i64 m) ∧ x < m ∧ m ≤ y ∧ At S m y w' := by
  have := parteq_any h.cm h.row k.ne x y p h1 h2 h.bs (h.ss k)
  rw [h.sz] at this
  obtain ⟨r1, r2, r3, r4, r5⟩ := round_eq (lt := lf S.cf) k.swo (partitionEqual_holds _) (d3 := dk) (d4 := (partitionEqual (lf S.cf) dk x y p).2) (mid := (partitionEqual (lf S.cf) dk x y p).1) h0 h1 h2 h.bs h.bel hl rfl
  exact this.mono fun e w' ⟨he, ho, hr⟩ => ⟨_, he, r1, r2, _, r3.trans h.sz, r4, fun R p1 p2 => have q := r5 R p1 p2; h.fin R q.1 q.2, hr, h.cm.only ho k.ne, h.only.trans ho fun _ e => .inl e, r2, h.bD⟩
theorem c_part (k : S.Ok) (h : Pt S x y W dk) (p : Nat) (h1 : x ≤ p) (h2 : p < y) : Calls Try.prog 50 #[.slice (some ⟨S.g, 0, none⟩) S.D S.c, .int .i64 x, .int .i64 y, .int .i64 p, FV S.hb] W fun e w' => ∃ (m : Nat) (ap : Bool), e = .returned (.tuple #[.int .i64 m, .bool ap]) ∧ x ≤ m ∧ m < y ∧ Half S x m y w' := by
  have := part_any h.cm h.row k.ne x y p h1 h2 h.bs (h.ss k)
  rw [h.sz] at this
  obtain ⟨r1, r2, r3, r4, r5, r6, r7⟩ := round_part (lt := lf S.cf) k.swo (partition_holds _) (d3 := dk) (d4 := (partition (lf S.cf) dk x y p).2.2) (mid := (partition (lf S.cf) dk x y p).1) (ap := (partition (lf S.cf) dk x y p).2.1) h1 h2 h.bs h.bel rfl
  exact this.mono fun e w' ⟨⟨ap, he⟩, ho, hr⟩ => ⟨_, ap, he, r1, r2, _, r3.trans h.sz, hr, h.cm.only ho k.ne, h.only.trans ho fun _ e => .inl e, r1, r2, h.bD, r4, r5,
    fun L p1 p2 => ⟨(r6 L p1 p2).1, fun R q1 q2 => have q := (r6 L p1 p2).2 R q1 q2; h.fin R q.1 q.2⟩, fun L p1 p2 => ⟨(r7 L p1 p2).1, fun R q1 q2 => have q := (r7 L p1 p2).2 R q1 q2; h.fin R q.1 q.2⟩⟩
/-- what the sort says of every part shorter than n -/
def Sorts (n : Nat) : Prop := ∀ (S : Sx) (lim : Nat), S.Ok → S.b - S.a < n → lim < 4611686018427387904 → Pt S S.a S.b S.w S.d →
  Calls Try.prog 40 #[.slice (some ⟨S.g, 0, none⟩) S.D S.c, .int .i64 S.a, .int .i64 S.b, .int .i64 lim, FV S.hb] S.w fun e w' => e = .returned (.tuple #[]) ∧ Fin S w'
theorem c_left {n m lim : Nat} (H : Sorts n) (k : S.Ok) (h : Half S x m y W) (hn : m - x < n) (hl : lim < 4611686018427387904) : Calls Try.prog 40 #[.slice (some ⟨S.g, 0, none⟩) S.D S.c, .int .i64 x, .int .i64 m, .int .i64 lim, FV S.hb] W fun e w' => e = .returned (.tuple #[]) ∧ At S (m + 1) y w' := by
  obtain ⟨d4, e1, e2, e3, e4, e5, e6, e7, e8, e9, e10, e11⟩ := h
  refine (H { S with a := x, b := m, d := d4, w := W } lim ⟨k.swo, k.ne, k.sz⟩ hn hl ⟨e1, e8, fun R p1 p2 => ⟨p1, p2⟩, e2, e3, Only.refl _ _, e5, by show m ≤ S.D; omega⟩).mono fun e w' ⟨he, ho, R, p1, p2, hr⟩ => ?_
  exact ⟨he, R, p1.1.trans e1, (e10 R p1 p2).1, (e10 R p1 p2).2, hr, e3.only ho k.ne, e4.trans ho fun _ e => .inl e, e6, e7⟩
theorem c_right {n m lim : Nat} (H : Sorts n) (k : S.Ok) (h : Half S x m y W) (hn : y - (m + 1) < n) (hl : lim < 4611686018427387904) : Calls Try.prog 40 #[.slice (some ⟨S.g, 0, none⟩) S.D S.c, .int .i64 ((m + 1 : Nat) : Int), .int .i64 y, .int .i64 lim, FV S.hb] W fun e w' => e = .returned (.tuple #[]) ∧ At S x m w' := by
  obtain ⟨d4, e1, e2, e3, e4, e5, e6, e7, e8, e9, e10, e11⟩ := h
  refine (H { S with a := m + 1, b := y, d := d4, w := W } lim ⟨k.swo, k.ne, k.sz⟩ hn hl ⟨e1, e9, fun R p1 p2 => ⟨p1, p2⟩, e2, e3, Only.refl _ _, by show m + 1 ≤ y; omega, e7⟩).mono fun e w' ⟨he, ho, R, p1, p2, hr⟩ => ?_
  exact ⟨he, R, p1.1.trans e1, (e11 R p1 p2).1, (e11 R p1 p2).2, hr, e3.only ho k.ne, e4.trans ho fun _ e => .inl e, e5, by show m ≤ S.D; omega⟩
end
end Go.Proofs.Ytbpahlhmdbahjaa.hso
