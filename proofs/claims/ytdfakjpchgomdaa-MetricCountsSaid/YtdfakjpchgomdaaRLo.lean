/-
  The contract of the document's own Least.
-/
import Derived.Test.YtdfakjpchgomdaaMUpto
import Derived.Deep.RegionHeld3
namespace Go.Proofs.Ytdfakjpchgomdaa.metric
open Go.RowKit law bytes nums ord obj
set_option linter.unusedVariables false

/-- two things' cells -/
def Two (W : World) (g : Nat) (A A' : Option Addr) (c c' : Nat) (x y : Thing) : Prop := Blk W g 24 #[.int .i64 x.tag, .slice A x.vec.length c, .string x.str] ∧ Blk W (g + 1) 24 #[.int .i64 y.tag, .slice A' y.vec.length c', .string y.str]
theorem Two.below {W W' : World} {g B : Nat} {A A' : Option Addr} {c c' : Nat} {x y : Thing} (h : Two W g A A' c c' x y) (hb : Below B W W') (hg : g + 1 < B) : Two W' g A A' c c' x y := ⟨h.1.below hb (by omega), h.2.below hb hg⟩
theorem wr64 {v : Int} (h1 : -9223372036854775808 ≤ v) (h2 : v ≤ 9223372036854775807) : IntKind.i64.wrap v = v := by simp [IntKind.wrap, IntKind.signed, IntKind.bits]; omega
set_option maxRecDepth 100000 in
set_option maxHeartbeats 3200000 in
theorem rleast1 (A A' : Option Addr) (c c' : Nat) (x y : Thing) (hx : Small x) (hy : Small y) (w : World) (s1 : Sl w w.heap.size A (iv x.vec)) (s2 : Sl w w.heap.size A' (iv y.vec)) :
    Calls Try.prog 12 #[.int .i64 1, .agg #[.int .i64 x.tag, .slice A x.vec.length c, .string x.str], .agg #[.int .i64 y.tag, .slice A' y.vec.length c', .string y.str]] w (Gives (.int .i64 (Lo 1 x y)) w) := by
  obtain ⟨hb, hba, hbb⟩ := two_box w 24 #[.int .i64 x.tag, .slice A x.vec.length c, .string x.str] #[.int .i64 y.tag, .slice A' y.vec.length c', .string y.str]
  have hb1 := dist.D_small hx.1 (show dist.Bd [] from by unfold dist.Bd; simp) hx.2.1 (by decide)
  have hb2 := dist.D_small hy.1 (show dist.Bd [] from by unfold dist.Bd; simp) hy.2.1 (by decide)
  have hn1 := dist.D_nonneg x.vec []
  have hn2 := dist.D_nonneg y.vec []
  have hV : ∀ V, V = (w.alloc (.cells #[.int .i64 x.tag, .slice A x.vec.length c, .string x.str] 24)).alloc (.cells #[.int .i64 y.tag, .slice A' y.vec.length c', .string y.str] 24) →
      (∀ W, Below V.heap.size V W → Calls Try.prog 20 #[.slice A x.vec.length c, .slice none 0 0] W (Gives (.int .i64 (dist.D x.vec [])) W)) ∧ (∀ W, Below V.heap.size V W → Calls Try.prog 20 #[.slice A' y.vec.length c', .slice none 0 0] W (Gives (.int .i64 (dist.D y.vec [])) W)) := by
    intro V hV
    rw [← hV] at hb
    exact ⟨fun W hW => lone.rdist_any A none c 0 x.vec [] hx.1 (by unfold dist.Bd; simp) hx.2.1 (by decide) W ((((s1.below hb).more hb.size).below hW).more hW.size) Sl.nil,
      fun W hW => lone.rdist_any A' none c' 0 y.vec [] hy.1 (by unfold dist.Bd; simp) hy.2.1 (by decide) W ((((s2.below hb).more hb.size).below hW).more hW.size) Sl.nil⟩
  have hL : Lo 1 x y = dist.gp (dist.D x.vec []) (dist.D y.vec []) := rfl
  rw [hL]
  clear hL
  obtain ⟨V, hV'⟩ : ∃ V, V = (w.alloc (.cells #[.int .i64 x.tag, .slice A x.vec.length c, .string x.str] 24)).alloc (.cells #[.int .i64 y.tag, .slice A' y.vec.length c', .string y.str] 24) := ⟨_, rfl⟩
  obtain ⟨g1, g2⟩ := hV V hV'
  rw [← hV'] at hb hba hbb
  clear hV
  generalize dist.D x.vec [] = d1 at g1 hb1 hn1 ⊢
  generalize dist.D y.vec [] = d2 at g2 hb2 hn2 ⊢
  obtain ⟨r, hr⟩ : ∃ r, r = d1 - d2 := ⟨_, rfl⟩
  have hw1 : IntKind.i64.wrap (d1 - d2) = r := by rw [wr64 (by omega) (by omega), hr]
  have hw2 : IntKind.i64.wrap (-r) = -r := wr64 (by omega) (by omega)
  have hG : dist.gp d1 d2 = if r < 0 then -r else r := by unfold dist.gp; split <;> omega
  have HG := Lib.hid hG
  have H1 := Lib.hid g1
  have H2 := Lib.hid g2
  have HB := Lib.hid hb
  have ht : Two V w.heap.size A A' c c' x y := ⟨hba, hbb⟩
  obtain ⟨c0, c1, c2, cf⟩ := cells3 hba
  obtain ⟨e0, e1, e2, ef⟩ := cells3 hbb
  have hgl : w.heap.size + 1 < V.heap.size := hbb.lt
  have hS : ∀ W : World, Below V.heap.size V W → Two W w.heap.size A A' c c' x y := fun W hW => ht.below hW hgl
  have hS2 : ∀ W : World, Below V.heap.size V W → (W.cell? ⟨w.heap.size, 1, none⟩ = some (.slice A x.vec.length c) ∧ W.cell? ⟨w.heap.size + 1, 1, none⟩ = some (.slice A' y.vec.length c')) := fun W hW => ⟨(hS W hW).1.cell 1, (hS W hW).2.cell 1⟩
  have HS := Lib.hid hS2
  have hB0 : Below V.heap.size V V := Below.refl _ _
  clear hS hS2 hG g1 g2 hb hba hbb hb1 hb2 hn1 hn2 hx hy s1 s2 ht hr
  go_enter Try.func12, Try.ntmps12
  go_wp2_with (fail)
  rw [← hV']
  clear hV'
  generalize w.heap.size = g at HS c0 c1 c2 cf e0 e1 e2 ef hgl ⊢
  go_region_held3 (fun W => W.cell? ⟨g, 1, none⟩ = some (.slice A x.vec.length c) ∧ W.cell? ⟨g + 1, 1, none⟩ = some (.slice A' y.vec.length c')) ((refine HS.out _ ?_; (first | (with_reducible exact Below.refl _ _) | (with_reducible exact Below.drew (Below.refl _ _)) | (with_reducible assumption))))
    (first
      | (go_at_call 20; (with_reducible refine (obj.on (by first | with_reducible assumption | with_reducible exact Below.drew (Below.refl _ _)) (H1.out _ (by first | with_reducible assumption | with_reducible exact Below.drew (Below.refl _ _)))).mono ?_); rintro e w2 ⟨rfl, hb2⟩)
      | (go_at_call 20; (with_reducible refine (obj.on (by first | with_reducible assumption | with_reducible exact Below.drew (Below.refl _ _)) (H2.out _ (by first | with_reducible assumption | with_reducible exact Below.drew (Below.refl _ _)))).mono ?_); rintro e w3 ⟨rfl, hb3⟩))
  all_goals
    by_cases hr0 : r < 0
    · have HG2 : Hid (dist.gp d1 d2 = -r) := Lib.hid (by rw [HG.out, if_pos hr0])
      have d0 : decide (r < 0) = true := decide_eq_true hr0
      clear hr0
      go_wp2_with (fail)
      go_ret
      exact ⟨ret_int HG2.out.symm, HB.out.trans (Below.mono (by assumption) HB.out.size)⟩
    · have HG2 : Hid (dist.gp d1 d2 = r) := Lib.hid (by rw [HG.out, if_neg hr0])
      have d0 : decide (r < 0) = false := decide_eq_false hr0
      clear hr0
      go_wp2_with (fail)
      go_ret
      exact ⟨ret_int HG2.out.symm, HB.out.trans (Below.mono (by assumption) HB.out.size)⟩
set_option maxHeartbeats 1600000 in
theorem rleast2 (A A' : Option Addr) (c c' : Nat) (x y : Thing) (hx : Small x) (hy : Small y) (w : World) (s1 : Sl w w.heap.size A (iv x.vec)) (s2 : Sl w w.heap.size A' (iv y.vec)) :
    Calls Try.prog 12 #[.int .i64 2, .agg #[.int .i64 x.tag, .slice A x.vec.length c, .string x.str], .agg #[.int .i64 y.tag, .slice A' y.vec.length c', .string y.str]] w (Gives (.int .i64 (Lo 2 x y)) w) := by
  obtain ⟨hb, hba, hbb⟩ := two_box w 24 #[.int .i64 x.tag, .slice A x.vec.length c, .string x.str] #[.int .i64 y.tag, .slice A' y.vec.length c', .string y.str]
  have h1 := hx.2.2
  have h2 := hy.2.2
  have hL : Lo 2 x y = gap x.str y.str := rfl
  rw [hL]
  clear hL
  have hg : gap x.str y.str = max ((x.str.size : Int) - (y.str.size : Int)) ((y.str.size : Int) - (x.str.size : Int)) := rfl
  obtain ⟨r, hr⟩ : ∃ r, r = (x.str.size : Int) - (y.str.size : Int) := ⟨_, rfl⟩
  have hw1 : IntKind.i64.wrap ((x.str.size : Int) - (y.str.size : Int)) = r := by rw [wr64 (by omega) (by omega), hr]
  have hw1' : wrap64 ((x.str.size : Int) - (y.str.size : Int)) = r := by rw [lone.w64 _ (by omega), hr]
  have hw2 : IntKind.i64.wrap (-r) = -r := wr64 (by omega) (by omega)
  have hw2' : wrap64 (-r) = -r := lone.w64 _ (by omega)
  have hG : gap x.str y.str = if r < 0 then -r else r := by rw [hg]; split <;> omega
  have HG := Lib.hid hG
  have HR := Lib.hid hr
  clear hG hg h1 h2 hr
  obtain ⟨c0, c1, c2, cf⟩ := cells3 hba
  obtain ⟨d0', d1, d2, df⟩ := cells3 hbb
  have HB := Lib.hid hb
  clear hb hx hy s1 s2 hba hbb
  by_cases hr0 : r < 0
  · rw [HG.out, if_pos hr0]
    have d0 : decide (r < 0) = true := decide_eq_true hr0
    clear hr0
    go_enter Try.func12, Try.ntmps12
    go_wp2_with (fail)
    go_ret
    exact ⟨rfl, HB.out⟩
  · rw [HG.out, if_neg hr0]
    have d0 : decide (r < 0) = false := decide_eq_false hr0
    clear hr0
    go_enter Try.func12, Try.ntmps12
    go_wp2_with (fail)
    go_ret
    exact ⟨rfl, HB.out⟩
set_option maxHeartbeats 1600000 in
theorem rleast3 (A A' : Option Addr) (c c' : Nat) (x y : Thing) (hx : Small x) (hy : Small y) (w : World) (s1 : Sl w w.heap.size A (iv x.vec)) (s2 : Sl w w.heap.size A' (iv y.vec)) :
    Calls Try.prog 12 #[.int .i64 3, .agg #[.int .i64 x.tag, .slice A x.vec.length c, .string x.str], .agg #[.int .i64 y.tag, .slice A' y.vec.length c', .string y.str]] w (Gives (.int .i64 (Lo 3 x y)) w) := by
  obtain ⟨hb, hba, hbb⟩ := two_box w 24 #[.int .i64 x.tag, .slice A x.vec.length c, .string x.str] #[.int .i64 y.tag, .slice A' y.vec.length c', .string y.str]
  have hV : ∀ V, Calls Try.prog 33 #[.string x.str, .string y.str] V (Gives (.int .i64 (Lo 3 x y)) V) := fun V => same_gives (lev.rleast_any x.str y.str hx.2.2 hy.2.2 V)
  have H := Lib.hid hV
  clear hV
  have hn := Lo_nonneg 3 x y
  generalize Lo 3 x y = d at H hn ⊢
  have d0 : decide (d < 0) = false := decide_eq_false (by omega)
  clear hn
  obtain ⟨c0, c1, c2, cf⟩ := cells3 hba
  obtain ⟨d0', d1, d2, df⟩ := cells3 hbb
  have HB := Lib.hid hb
  clear hb hx hy s1 s2 hba hbb
  go_enter Try.func12, Try.ntmps12
  go_wp2_with (fail)
  refine (H.out _).mono ?_
  rintro e w1 ⟨rfl, hb1⟩
  go_wp2_with (fail)
  go_ret
  exact ⟨rfl, HB.out.trans (hb1.mono HB.out.size)⟩
set_option maxHeartbeats 1600000 in
theorem rleast0 (n : Int) (n1 : n ≠ 1) (n2 : n ≠ 2) (n3 : n ≠ 3) (A A' : Option Addr) (c c' : Nat) (x y : Thing) (hx : Small x) (hy : Small y) (w : World) (s1 : Sl w w.heap.size A (iv x.vec)) (s2 : Sl w w.heap.size A' (iv y.vec)) :
    Calls Try.prog 12 #[.int .i64 n, .agg #[.int .i64 x.tag, .slice A x.vec.length c, .string x.str], .agg #[.int .i64 y.tag, .slice A' y.vec.length c', .string y.str]] w (Gives (.int .i64 (Lo n x y)) w) := by
  obtain ⟨hb, hba, hbb⟩ := two_box w 24 #[.int .i64 x.tag, .slice A x.vec.length c, .string x.str] #[.int .i64 y.tag, .slice A' y.vec.length c', .string y.str]
  have e1 : (n == 1) = false := by simpa using n1
  have e2 : (n == 2) = false := by simpa using n2
  have e3 : (n == 3) = false := by simpa using n3
  rw [Lo_0 n1 n2 n3]
  obtain ⟨c0, c1, c2, cf⟩ := cells3 hba
  obtain ⟨d0', d1, d2, df⟩ := cells3 hbb
  have HB := Lib.hid hb
  clear hb hx hy s1 s2 hba hbb n1 n2 n3
  go_enter Try.func12, Try.ntmps12
  go_wp2_with (fail)
  go_ret
  exact ⟨rfl, HB.out⟩
theorem rleast_any (n : Int) (A A' : Option Addr) (c c' : Nat) (x y : Thing) (hx : Small x) (hy : Small y) (w : World) (s1 : Sl w w.heap.size A (iv x.vec)) (s2 : Sl w w.heap.size A' (iv y.vec)) :
    Calls Try.prog 12 #[.int .i64 n, .agg #[.int .i64 x.tag, .slice A x.vec.length c, .string x.str], .agg #[.int .i64 y.tag, .slice A' y.vec.length c', .string y.str]] w (Gives (.int .i64 (Lo n x y)) w) := by
  refine cases4 (p := fun n => Calls Try.prog 12 #[.int .i64 n, .agg #[.int .i64 x.tag, .slice A x.vec.length c, .string x.str], .agg #[.int .i64 y.tag, .slice A' y.vec.length c', .string y.str]] w (Gives (.int .i64 (Lo n x y)) w)) ?_ ?_ ?_ ?_ n
  · exact rleast1 A A' c c' x y hx hy w s1 s2
  · exact rleast2 A A' c c' x y hx hy w s1 s2
  · exact rleast3 A A' c c' x y hx hy w s1 s2
  · intro n n1 n2 n3
    exact rleast0 n n1 n2 n3 A A' c c' x y hx hy w s1 s2
end Go.Proofs.Ytdfakjpchgomdaa.metric
