/-
  The contracts of order2CmpFunc, medianCmpFunc, medianAdjacentCmpFunc, choosePivotCmpFunc: which place comes out, not how.
-/
import Derived.Test.YtbpahlhmdbahjaaHsoH
namespace Go.Proofs.Ytbpahlhmdbahjaa.hso
open Go.RowKit law bytes only flat hit heapM best Go.Sort Go.Shelf
set_option linter.unusedVariables false

/-- the sort's memory, and a counter of exchanges at block s -/
structure Sw (hb K : Nat) (v : Value) (cf : Hit → Hit → Int) (base g c : Nat) (d : Array Hit) (s : Nat) (w : World) : Prop where
  cm : Cm hb K v cf w
  row : HRow w base g c d
  sg : s ≠ g
  sh : s ≠ hb
  blk : ∃ n : Int, Blk w s 3 #[.int .i64 n]
section
variable {hb K : Nat} {v : Value} {cf : Hit → Hit → Int} {w W : World} {base g c s : Nat} {d : Array Hit}
theorem Sw.only (h : Sw hb K v cf base g c d s w) (o : Only (· = s) w W) {n : Int} (hn : Blk W s 3 #[.int .i64 n]) : Sw hb K v cf base g c d s W :=
  ⟨h.cm.only o (fun e => h.sh e.symm), h.row.only o (fun e => h.sg e.symm), h.sg, h.sh, n, hn⟩
end
/-- which of two comes first -/
def Two (i j i2 j2 : Nat) : Prop := (i2 = i ∧ j2 = j) ∨ (i2 = j ∧ j2 = i)
set_option maxRecDepth 100000 in
set_option maxHeartbeats 1600000 in
theorem order2_any {hb K : Nat} {v : Value} {cf : Hit → Hit → Int} {base g c s : Nat} {d : Array Hit} {w : World} (h : Sw hb K v cf base g c d s w) (i j : Nat) (hi : i < d.size) (hj : j < d.size) (hsz : d.size < 2305843009213693952) :
    Calls Try.prog 58 #[.slice (some ⟨g, 0, none⟩) d.size c, .int .i64 i, .int .i64 j, .pointer (some ⟨s, 0, none⟩), FV hb] w fun e w' =>
      ∃ i2 j2 : Nat, e = .returned (.tuple #[.int .i64 i2, .int .i64 j2]) ∧ Two i j i2 j2 ∧ Only (· = s) w w' ∧ Sw hb K v cf base g c d s w' := by
  unfold FV
  obtain ⟨x, y, r, hx, hy, hl, HS, HCC, q0, q1, q2, q3⟩ := cmp_step h.cm h.row j i hj hi
  clear hx hy hl
  have i1 : (j : Int) < (d.size : Int) := by omega
  have i2 : (i : Int) < (d.size : Int) := by omega
  obtain ⟨n, hn⟩ := h.blk
  obtain ⟨n1, i3⟩ : ∃ n1, IntKind.i64.wrap (n + 1) = n1 := ⟨_, rfl⟩
  have HW := Lib.hid h
  have HB := Lib.hid hn
  clear h hn
  obtain ⟨o, hd⟩ : ∃ o, decide (r < 0) = o := ⟨_, rfl⟩
  go_enter Try.func58, Try.ntmps58
  go_wp2_with (fail)
  go_region_held3 (fun W => W.cell? ⟨g, j * 2, none⟩ = some (.int .u64 x.1) ∧ W.cell? ⟨g, j * 2 + 1, none⟩ = some (.int .i64 x.2) ∧ W.cell? ⟨g, i * 2, none⟩ = some (.int .u64 y.1) ∧ W.cell? ⟨g, i * 2 + 1, none⟩ = some (.int .i64 y.2)) ((refine HS.out _ ?_; repeat' (first | (with_reducible exact Below.refl _ _) | (with_reducible assumption) | (with_reducible refine Below.drew ?_) | (with_reducible refine below_drewN' ?_ _))))
    (first
      | (go_at_call 36; (with_reducible refine (HCC.out _ (by repeat' (first | (with_reducible exact Below.refl _ _) | (with_reducible assumption) | (with_reducible refine Below.drew ?_) | (with_reducible refine below_drewN' ?_ _)))).mono ?_); rintro e w2 ⟨rfl, hb2⟩))
  have HB2 : Blk w2 s 3 #[.int .i64 n] := HB.out.below hb2 HB.out.lt
  have HO2 : Only (· = s) w w2 := Only.of_below hb2 (Nat.le_refl _) _
  have c0 : w2.cell? ⟨s, 0, none⟩ = some (.int .i64 n) := HB2.cell 0
  have f0 : w2.frozen? ⟨s, 0, none⟩ = false := HB2.frozen 0
  have HB3 := Lib.hid HB2
  have HO3 := Lib.hid HO2
  clear HB2 HO2 hb2 HCC HS q0 q1 q2 q3
  cases o with
  | true =>
    go_wp2_with (fail)
    refine bodyPost_ret (v := .tuple #[.int .i64 j, .int .i64 i]) (by simp [results, Try.results58, go_sem]) rfl ?_
    have ho := HO3.out.setCell (p := ⟨s, 0, none⟩) (.inl rfl) (.int .i64 n1)
    exact ⟨j, i, rfl, .inr ⟨rfl, rfl⟩, ho, HW.out.only ho (HB3.out.set_ 0 _)⟩
  | false =>
    go_wp2_with (fail)
    refine bodyPost_ret (v := .tuple #[.int .i64 i, .int .i64 j]) (by simp [results, Try.results58, go_sem]) rfl ?_
    exact ⟨i, j, rfl, .inl ⟨rfl, rfl⟩, HO3.out, HW.out.only HO3.out HB3.out⟩

set_option maxRecDepth 100000 in
set_option maxHeartbeats 1600000 in
theorem median_any {hb K : Nat} {v : Value} {cf : Hit → Hit → Int} {base g c s : Nat} {d : Array Hit} {w : World} (h : Sw hb K v cf base g c d s w) (i j k : Nat) (hi : i < d.size) (hj : j < d.size) (hk : k < d.size) (hsz : d.size < 2305843009213693952) :
    Calls Try.prog 57 #[.slice (some ⟨g, 0, none⟩) d.size c, .int .i64 i, .int .i64 j, .int .i64 k, .pointer (some ⟨s, 0, none⟩), FV hb] w fun e w' =>
      ∃ p : Nat, e = .returned (.int .i64 p) ∧ (p = i ∨ p = j ∨ p = k) ∧ Only (· = s) w w' ∧ Sw hb K v cf base g c d s w' := by
  obtain ⟨fv, hfv⟩ : ∃ fv, fv = FV hb := ⟨_, rfl⟩
  have HQ : Hid (∀ (W : World) (x y : Nat), Sw hb K v cf base g c d s W → x < d.size → y < d.size → Calls Try.prog 58 #[.slice (some ⟨g, 0, none⟩) d.size c, .int .i64 x, .int .i64 y, .pointer (some ⟨s, 0, none⟩), fv] W fun e w' =>
      ∃ i2 j2 : Nat, e = .returned (.tuple #[.int .i64 i2, .int .i64 j2]) ∧ Two x y i2 j2 ∧ Only (· = s) W w' ∧ Sw hb K v cf base g c d s w') := Lib.hid fun W x y h hx hy => by
    rw [hfv]; exact order2_any h x y hx hy hsz
  rw [← hfv]
  have H0 := Lib.hid h
  clear h hfv
  go_enter Try.func57, Try.ntmps57
  go_wp2_with (fail)
  refine (HQ.out _ i j H0.out hi hj).mono ?_
  rintro e w1 ⟨i2, j2, rfl, ht1, ho1, h1⟩
  have b1 : i2 < d.size ∧ j2 < d.size := by rcases ht1 with ⟨rfl, rfl⟩ | ⟨rfl, rfl⟩ <;> exact ⟨by omega, by omega⟩
  have H1 := Lib.hid h1
  have T1 := Lib.hid ht1
  have O1 := Lib.hid ho1
  have B1 := Lib.hid b1
  clear H0 h1 ht1 ho1 b1
  go_wp2_with (fail)
  refine (HQ.out _ j2 k H1.out B1.out.2 hk).mono ?_
  rintro e w2 ⟨j3, k3, rfl, ht2, ho2, h2⟩
  have b2 : j3 < d.size := by have := B1.out; rcases ht2 with ⟨rfl, rfl⟩ | ⟨rfl, rfl⟩ <;> omega
  have H2 := Lib.hid h2
  have B2 := Lib.hid b2
  have T2 := Lib.hid ht2
  have O2 := Lib.hid ho2
  clear H1 h2 ht2 ho2 b2
  go_wp2_with (fail)
  refine (HQ.out _ i2 j3 H2.out B1.out.1 B2.out).mono ?_
  rintro e w3 ⟨i4, j4, rfl, ht3, ho3, h3⟩
  have T3 := Lib.hid ht3
  have O3 := Lib.hid ho3
  have S3 := Lib.hid h3
  clear H2 h3 ht3 ho3
  go_wp2_with (fail)
  refine bodyPost_ret (v := .int .i64 j4) (by simp [results, Try.results57, go_sem]) rfl ?_
  refine ⟨j4, rfl, ?_, (O1.out.trans O2.out fun _ e => .inl e).trans O3.out fun _ e => .inl e, S3.out⟩
  rcases T1.out with ⟨rfl, rfl⟩ | ⟨rfl, rfl⟩ <;> rcases T2.out with ⟨rfl, rfl⟩ | ⟨rfl, rfl⟩ <;> rcases T3.out with ⟨rfl, rfl⟩ | ⟨rfl, rfl⟩ <;> simp

set_option maxRecDepth 100000 in
set_option maxHeartbeats 1600000 in
theorem adjacent_any {hb K : Nat} {v : Value} {cf : Hit → Hit → Int} {base g c s : Nat} {d : Array Hit} {w : World} (h : Sw hb K v cf base g c d s w) (i : Nat) (h0 : 0 < i) (hi : i + 1 < d.size) (hsz : d.size < 2305843009213693952) :
    Calls Try.prog 56 #[.slice (some ⟨g, 0, none⟩) d.size c, .int .i64 i, .pointer (some ⟨s, 0, none⟩), FV hb] w fun e w' =>
      ∃ p : Nat, e = .returned (.int .i64 p) ∧ (p = i - 1 ∨ p = i ∨ p = i + 1) ∧ Only (· = s) w w' ∧ Sw hb K v cf base g c d s w' := by
  have H1 := Lib.hid (median_any h (i - 1) i (i + 1) (by omega) (by omega) hi hsz)
  clear h
  obtain ⟨fv, hfv⟩ : ∃ fv, fv = FV hb := ⟨_, rfl⟩
  rw [← hfv] at H1 ⊢
  obtain ⟨i1, hi1⟩ : ∃ i1, i1 = i - 1 := ⟨_, rfl⟩
  obtain ⟨i2, hi2⟩ : ∃ i2, i2 = i + 1 := ⟨_, rfl⟩
  rw [← hi1, ← hi2] at H1
  have q1 : IntKind.i64.wrap ((i : Int) - 1) = (i1 : Int) := w64 (by omega) (by omega) (by omega)
  have q2 : IntKind.i64.wrap ((i : Int) + 1) = (i2 : Int) := w64 (by omega) (by omega) (by omega)
  rw [← hi1, ← hi2]
  clear hi1 hi2 hfv
  go_enter Try.func56, Try.ntmps56
  go_wp2_with (fail)
  refine H1.out.mono ?_
  rintro e w1 ⟨p, rfl, hp, ho, h1⟩
  have HP := Lib.hid hp
  have HO := Lib.hid ho
  have H := Lib.hid h1
  clear H1 hp ho h1
  go_wp2_with (fail)
  refine bodyPost_ret (v := .int .i64 p) (by simp [results, Try.results56, go_sem]) rfl ?_
  exact ⟨p, rfl, HP.out, HO.out, H.out⟩
end Go.Proofs.Ytbpahlhmdbahjaa.hso
