/-
  The contracts of metric.tell, Dist, Upto, Least.
-/
import Derived.Test.YtdfakjpchgomdaaMetM
namespace Go.Proofs.Ytdfakjpchgomdaa.metric
open Go.RowKit law bytes nums ord obj
set_option linter.unusedVariables false

theorem still_gives {P : Program} {f : FuncId} {args : Array Value} {v : Value} {w : World} (h : Calls P f args w (ham.Still v w)) : Calls P f args w (Gives v w) :=
  h.mono fun e w' ⟨he, k, hk⟩ => ⟨he, by rw [hk]; exact below_drewN' (Below.refl _ _) k⟩
theorem same_gives {P : Program} {f : FuncId} {args : Array Value} {v : Value} {w : World} (h : Calls P f args w fun e w' => e = .returned v ∧ w = w') : Calls P f args w (Gives v w) :=
  h.mono fun e w' ⟨he, hw⟩ => ⟨he, by subst hw; exact Below.refl _ _⟩
/-- two things in new memory -/
def two (w : World) (A A' : Option Addr) (c c' : Nat) (x y : Thing) : World := (w.alloc (.cells #[.int .i64 x.tag, .slice A x.vec.length c, .string x.str] 24)).alloc (.cells #[.int .i64 y.tag, .slice A' y.vec.length c', .string y.str] 24)
theorem longer_any (a b : ByteArray) (ha : a.size ≤ 1048576) (hb : b.size ≤ 1048576) (w : World) : Calls Try.prog 31 #[.string a, .string b] w (Gives (.int .i64 (gap a b)) w) := by
  have hG : gap a b = max ((a.size : Int) - (b.size : Int)) ((b.size : Int) - (a.size : Int)) := rfl
  have HG := Lib.hid hG
  clear hG
  go_enter Try.func31, Try.ntmps31
  go_wp2_with (fail)
  all_goals
    go_ret
    exact ⟨ret_int (by first | exact HG.out.symm | (rw [HG.out]; omega)), Below.refl _ _⟩
set_option maxHeartbeats 1600000 in
theorem tellD1 (A A' : Option Addr) (c c' : Nat) (x y : Thing) (hx : Small x) (hy : Small y) (w : World) (s1 : Sl w w.heap.size A (iv x.vec)) (s2 : Sl w w.heap.size A' (iv y.vec)) :
    Calls Try.prog 26 #[.int .i64 1, .agg #[.int .i64 x.tag, .slice A x.vec.length c, .string x.str], .agg #[.int .i64 y.tag, .slice A' y.vec.length c', .string y.str], .func (.func 27) #[] #[], .func (.func 28) #[] #[], .func (.func 29) #[] #[]] w (Gives (.int .i64 (M 1 x y)) w) := by
  obtain ⟨hb, hba, hbb⟩ := two_box w 24 #[.int .i64 x.tag, .slice A x.vec.length c, .string x.str] #[.int .i64 y.tag, .slice A' y.vec.length c', .string y.str]
  have hV : ∀ V, V = (w.alloc (.cells #[.int .i64 x.tag, .slice A x.vec.length c, .string x.str] 24)).alloc (.cells #[.int .i64 y.tag, .slice A' y.vec.length c', .string y.str] 24) → Calls Try.prog 27 #[.slice A x.vec.length c, .slice A' y.vec.length c'] V (Gives (.int .i64 (M 1 x y)) V) := by
    intro V hV
    rw [← hV] at hb
    have h : Calls Try.prog 27 #[.slice A x.vec.length c, .slice A' y.vec.length c'] V (Gives (.int .i64 (M 1 x y)) V) := lone.dist_any A A' c c' x.vec y.vec hx.1 hy.1 hx.2.1 hy.2.1 V ((s1.below hb).more hb.size) ((s2.below hb).more hb.size)
    exact h
  have H := Lib.hid (hV _ rfl)
  clear hV
  generalize M 1 x y = d at H ⊢
  obtain ⟨c0, c1, c2, cf⟩ := cells3 hba
  obtain ⟨d0, d1, d2, df⟩ := cells3 hbb
  have HB := Lib.hid hb
  clear hb hx hy s1 s2 hba hbb
  go_enter Try.func26, Try.ntmps26
  go_wp2_with (fail)
  refine H.out.mono ?_
  rintro e w1 ⟨rfl, hb1⟩
  go_wp2_with (fail)
  go_ret
  exact ⟨rfl, HB.out.trans (hb1.mono HB.out.size)⟩
set_option maxHeartbeats 1600000 in
theorem tellD2 (A A' : Option Addr) (c c' : Nat) (x y : Thing) (hx : Small x) (hy : Small y) (w : World) (s1 : Sl w w.heap.size A (iv x.vec)) (s2 : Sl w w.heap.size A' (iv y.vec)) :
    Calls Try.prog 26 #[.int .i64 2, .agg #[.int .i64 x.tag, .slice A x.vec.length c, .string x.str], .agg #[.int .i64 y.tag, .slice A' y.vec.length c', .string y.str], .func (.func 27) #[] #[], .func (.func 28) #[] #[], .func (.func 29) #[] #[]] w (Gives (.int .i64 (M 2 x y)) w) := by
  obtain ⟨hb, hba, hbb⟩ := two_box w 24 #[.int .i64 x.tag, .slice A x.vec.length c, .string x.str] #[.int .i64 y.tag, .slice A' y.vec.length c', .string y.str]
  have hV : ∀ V, V = (w.alloc (.cells #[.int .i64 x.tag, .slice A x.vec.length c, .string x.str] 24)).alloc (.cells #[.int .i64 y.tag, .slice A' y.vec.length c', .string y.str] 24) → Calls Try.prog 28 #[.string x.str, .string y.str] V (Gives (.int .i64 (M 2 x y)) V) := by
    intro V hV
    rw [← hV] at hb
    have h : Calls Try.prog 28 #[.string x.str, .string y.str] V (Gives (.int .i64 (M 2 x y)) V) := still_gives (ham.dist_any x.str y.str (Nat.le_trans hx.2.2 (by decide)) (Nat.le_trans hy.2.2 (by decide)) V)
    exact h
  have H := Lib.hid (hV _ rfl)
  clear hV
  generalize M 2 x y = d at H ⊢
  obtain ⟨c0, c1, c2, cf⟩ := cells3 hba
  obtain ⟨d0, d1, d2, df⟩ := cells3 hbb
  have HB := Lib.hid hb
  clear hb hx hy s1 s2 hba hbb
  go_enter Try.func26, Try.ntmps26
  go_wp2_with (fail)
  refine H.out.mono ?_
  rintro e w1 ⟨rfl, hb1⟩
  go_wp2_with (fail)
  go_ret
  exact ⟨rfl, HB.out.trans (hb1.mono HB.out.size)⟩
set_option maxHeartbeats 1600000 in
theorem tellD3 (A A' : Option Addr) (c c' : Nat) (x y : Thing) (hx : Small x) (hy : Small y) (w : World) (s1 : Sl w w.heap.size A (iv x.vec)) (s2 : Sl w w.heap.size A' (iv y.vec)) :
    Calls Try.prog 26 #[.int .i64 3, .agg #[.int .i64 x.tag, .slice A x.vec.length c, .string x.str], .agg #[.int .i64 y.tag, .slice A' y.vec.length c', .string y.str], .func (.func 27) #[] #[], .func (.func 28) #[] #[], .func (.func 29) #[] #[]] w (Gives (.int .i64 (M 3 x y)) w) := by
  obtain ⟨hb, hba, hbb⟩ := two_box w 24 #[.int .i64 x.tag, .slice A x.vec.length c, .string x.str] #[.int .i64 y.tag, .slice A' y.vec.length c', .string y.str]
  have hV : ∀ V, V = (w.alloc (.cells #[.int .i64 x.tag, .slice A x.vec.length c, .string x.str] 24)).alloc (.cells #[.int .i64 y.tag, .slice A' y.vec.length c', .string y.str] 24) → Calls Try.prog 29 #[.string x.str, .string y.str] V (Gives (.int .i64 (M 3 x y)) V) := by
    intro V hV
    rw [← hV] at hb
    have h : Calls Try.prog 29 #[.string x.str, .string y.str] V (Gives (.int .i64 (M 3 x y)) V) := lev.dist_any x.str y.str hx.2.2 hy.2.2 V
    exact h
  have H := Lib.hid (hV _ rfl)
  clear hV
  generalize M 3 x y = d at H ⊢
  obtain ⟨c0, c1, c2, cf⟩ := cells3 hba
  obtain ⟨d0, d1, d2, df⟩ := cells3 hbb
  have HB := Lib.hid hb
  clear hb hx hy s1 s2 hba hbb
  go_enter Try.func26, Try.ntmps26
  go_wp2_with (fail)
  refine H.out.mono ?_
  rintro e w1 ⟨rfl, hb1⟩
  go_wp2_with (fail)
  go_ret
  exact ⟨rfl, HB.out.trans (hb1.mono HB.out.size)⟩
set_option maxHeartbeats 1600000 in
theorem tellD0 (n : Int) (n1 : n ≠ 1) (n2 : n ≠ 2) (n3 : n ≠ 3) (A A' : Option Addr) (c c' : Nat) (x y : Thing) (hx : Small x) (hy : Small y) (w : World) (s1 : Sl w w.heap.size A (iv x.vec)) (s2 : Sl w w.heap.size A' (iv y.vec)) :
    Calls Try.prog 26 #[.int .i64 n, .agg #[.int .i64 x.tag, .slice A x.vec.length c, .string x.str], .agg #[.int .i64 y.tag, .slice A' y.vec.length c', .string y.str], .func (.func 27) #[] #[], .func (.func 28) #[] #[], .func (.func 29) #[] #[]] w (Gives (.int .i64 (M n x y)) w) := by
  obtain ⟨hb, hba, hbb⟩ := two_box w 24 #[.int .i64 x.tag, .slice A x.vec.length c, .string x.str] #[.int .i64 y.tag, .slice A' y.vec.length c', .string y.str]
  have e1 : (n == 1) = false := by simpa using n1
  have e2 : (n == 2) = false := by simpa using n2
  have e3 : (n == 3) = false := by simpa using n3
  rw [M_0 n1 n2 n3]
  obtain ⟨c0, c1, c2, cf⟩ := cells3 hba
  obtain ⟨d0, d1, d2, df⟩ := cells3 hbb
  have HB := Lib.hid hb
  clear hb hx hy s1 s2 hba hbb n1 n2 n3
  go_enter Try.func26, Try.ntmps26
  go_wp2_with (fail)
  go_ret
  exact ⟨rfl, HB.out⟩
theorem tellD (n : Int) (A A' : Option Addr) (c c' : Nat) (x y : Thing) (hx : Small x) (hy : Small y) (w : World) (s1 : Sl w w.heap.size A (iv x.vec)) (s2 : Sl w w.heap.size A' (iv y.vec)) :
    Calls Try.prog 26 #[.int .i64 n, .agg #[.int .i64 x.tag, .slice A x.vec.length c, .string x.str], .agg #[.int .i64 y.tag, .slice A' y.vec.length c', .string y.str], .func (.func 27) #[] #[], .func (.func 28) #[] #[], .func (.func 29) #[] #[]] w (Gives (.int .i64 (M n x y)) w) := by
  refine cases4 (p := fun n => Calls Try.prog 26 #[.int .i64 n, .agg #[.int .i64 x.tag, .slice A x.vec.length c, .string x.str], .agg #[.int .i64 y.tag, .slice A' y.vec.length c', .string y.str], .func (.func 27) #[] #[], .func (.func 28) #[] #[], .func (.func 29) #[] #[]] w (Gives (.int .i64 (M n x y)) w)) ?_ ?_ ?_ ?_ n
  · exact tellD1 A A' c c' x y hx hy w s1 s2
  · exact tellD2 A A' c c' x y hx hy w s1 s2
  · exact tellD3 A A' c c' x y hx hy w s1 s2
  · intro n n1 n2 n3
    exact tellD0 n n1 n2 n3 A A' c c' x y hx hy w s1 s2
set_option maxHeartbeats 800000 in
theorem mdist_any (n : Int) (A A' : Option Addr) (c c' : Nat) (x y : Thing) (hx : Small x) (hy : Small y) (w : World) (s1 : Sl w w.heap.size A (iv x.vec)) (s2 : Sl w w.heap.size A' (iv y.vec)) :
    Calls Try.prog 10 #[.int .i64 n, .agg #[.int .i64 x.tag, .slice A x.vec.length c, .string x.str], .agg #[.int .i64 y.tag, .slice A' y.vec.length c', .string y.str]] w (Gives (.int .i64 (M n x y)) w) := by
  obtain ⟨hb, hba, hbb⟩ := two_box w 24 #[.int .i64 x.tag, .slice A x.vec.length c, .string x.str] #[.int .i64 y.tag, .slice A' y.vec.length c', .string y.str]
  have H := Lib.hid (tellD n A A' c c' x y hx hy _ ((s1.below hb).more hb.size) ((s2.below hb).more hb.size))
  generalize M n x y = d at H ⊢
  obtain ⟨c0, c1, c2, cf⟩ := cells3 hba
  obtain ⟨d0, d1, d2, df⟩ := cells3 hbb
  have HB := Lib.hid hb
  clear hb hx hy s1 s2 hba hbb
  go_enter Try.func10, Try.ntmps10
  go_wp2_with (fail)
  refine H.out.mono ?_
  rintro e w1 ⟨rfl, hb1⟩
  go_wp2_with (fail)
  go_ret
  exact ⟨rfl, HB.out.trans (hb1.mono HB.out.size)⟩
set_option maxHeartbeats 1600000 in
theorem tellL1 (A A' : Option Addr) (c c' : Nat) (x y : Thing) (hx : Small x) (hy : Small y) (w : World) (s1 : Sl w w.heap.size A (iv x.vec)) (s2 : Sl w w.heap.size A' (iv y.vec)) :
    Calls Try.prog 26 #[.int .i64 1, .agg #[.int .i64 x.tag, .slice A x.vec.length c, .string x.str], .agg #[.int .i64 y.tag, .slice A' y.vec.length c', .string y.str], .func (.func 30) #[] #[], .func (.func 31) #[] #[], .func (.func 32) #[] #[]] w (Gives (.int .i64 (Lo 1 x y)) w) := by
  obtain ⟨hb, hba, hbb⟩ := two_box w 24 #[.int .i64 x.tag, .slice A x.vec.length c, .string x.str] #[.int .i64 y.tag, .slice A' y.vec.length c', .string y.str]
  have hV : ∀ V, V = (w.alloc (.cells #[.int .i64 x.tag, .slice A x.vec.length c, .string x.str] 24)).alloc (.cells #[.int .i64 y.tag, .slice A' y.vec.length c', .string y.str] 24) → Calls Try.prog 30 #[.slice A x.vec.length c, .slice A' y.vec.length c'] V (Gives (.int .i64 (Lo 1 x y)) V) := by
    intro V hV
    rw [← hV] at hb
    have h : Calls Try.prog 30 #[.slice A x.vec.length c, .slice A' y.vec.length c'] V (Gives (.int .i64 (Lo 1 x y)) V) := lone.least_any A A' c c' x.vec y.vec hx.1 hy.1 hx.2.1 hy.2.1 V ((s1.below hb).more hb.size) ((s2.below hb).more hb.size)
    exact h
  have H := Lib.hid (hV _ rfl)
  clear hV
  generalize Lo 1 x y = d at H ⊢
  obtain ⟨c0, c1, c2, cf⟩ := cells3 hba
  obtain ⟨d0, d1, d2, df⟩ := cells3 hbb
  have HB := Lib.hid hb
  clear hb hx hy s1 s2 hba hbb
  go_enter Try.func26, Try.ntmps26
  go_wp2_with (fail)
  refine H.out.mono ?_
  rintro e w1 ⟨rfl, hb1⟩
  go_wp2_with (fail)
  go_ret
  exact ⟨rfl, HB.out.trans (hb1.mono HB.out.size)⟩
set_option maxHeartbeats 1600000 in
theorem tellL2 (A A' : Option Addr) (c c' : Nat) (x y : Thing) (hx : Small x) (hy : Small y) (w : World) (s1 : Sl w w.heap.size A (iv x.vec)) (s2 : Sl w w.heap.size A' (iv y.vec)) :
    Calls Try.prog 26 #[.int .i64 2, .agg #[.int .i64 x.tag, .slice A x.vec.length c, .string x.str], .agg #[.int .i64 y.tag, .slice A' y.vec.length c', .string y.str], .func (.func 30) #[] #[], .func (.func 31) #[] #[], .func (.func 32) #[] #[]] w (Gives (.int .i64 (Lo 2 x y)) w) := by
  obtain ⟨hb, hba, hbb⟩ := two_box w 24 #[.int .i64 x.tag, .slice A x.vec.length c, .string x.str] #[.int .i64 y.tag, .slice A' y.vec.length c', .string y.str]
  have hV : ∀ V, V = (w.alloc (.cells #[.int .i64 x.tag, .slice A x.vec.length c, .string x.str] 24)).alloc (.cells #[.int .i64 y.tag, .slice A' y.vec.length c', .string y.str] 24) → Calls Try.prog 31 #[.string x.str, .string y.str] V (Gives (.int .i64 (Lo 2 x y)) V) := by
    intro V hV
    rw [← hV] at hb
    have h : Calls Try.prog 31 #[.string x.str, .string y.str] V (Gives (.int .i64 (Lo 2 x y)) V) := longer_any x.str y.str hx.2.2 hy.2.2 V
    exact h
  have H := Lib.hid (hV _ rfl)
  clear hV
  generalize Lo 2 x y = d at H ⊢
  obtain ⟨c0, c1, c2, cf⟩ := cells3 hba
  obtain ⟨d0, d1, d2, df⟩ := cells3 hbb
  have HB := Lib.hid hb
  clear hb hx hy s1 s2 hba hbb
  go_enter Try.func26, Try.ntmps26
  go_wp2_with (fail)
  refine H.out.mono ?_
  rintro e w1 ⟨rfl, hb1⟩
  go_wp2_with (fail)
  go_ret
  exact ⟨rfl, HB.out.trans (hb1.mono HB.out.size)⟩
set_option maxHeartbeats 1600000 in
theorem tellL3 (A A' : Option Addr) (c c' : Nat) (x y : Thing) (hx : Small x) (hy : Small y) (w : World) (s1 : Sl w w.heap.size A (iv x.vec)) (s2 : Sl w w.heap.size A' (iv y.vec)) :
    Calls Try.prog 26 #[.int .i64 3, .agg #[.int .i64 x.tag, .slice A x.vec.length c, .string x.str], .agg #[.int .i64 y.tag, .slice A' y.vec.length c', .string y.str], .func (.func 30) #[] #[], .func (.func 31) #[] #[], .func (.func 32) #[] #[]] w (Gives (.int .i64 (Lo 3 x y)) w) := by
  obtain ⟨hb, hba, hbb⟩ := two_box w 24 #[.int .i64 x.tag, .slice A x.vec.length c, .string x.str] #[.int .i64 y.tag, .slice A' y.vec.length c', .string y.str]
  have hV : ∀ V, V = (w.alloc (.cells #[.int .i64 x.tag, .slice A x.vec.length c, .string x.str] 24)).alloc (.cells #[.int .i64 y.tag, .slice A' y.vec.length c', .string y.str] 24) → Calls Try.prog 32 #[.string x.str, .string y.str] V (Gives (.int .i64 (Lo 3 x y)) V) := by
    intro V hV
    rw [← hV] at hb
    have h : Calls Try.prog 32 #[.string x.str, .string y.str] V (Gives (.int .i64 (Lo 3 x y)) V) := lev.least_any x.str y.str hx.2.2 hy.2.2 V
    exact h
  have H := Lib.hid (hV _ rfl)
  clear hV
  generalize Lo 3 x y = d at H ⊢
  obtain ⟨c0, c1, c2, cf⟩ := cells3 hba
  obtain ⟨d0, d1, d2, df⟩ := cells3 hbb
  have HB := Lib.hid hb
  clear hb hx hy s1 s2 hba hbb
  go_enter Try.func26, Try.ntmps26
  go_wp2_with (fail)
  refine H.out.mono ?_
  rintro e w1 ⟨rfl, hb1⟩
  go_wp2_with (fail)
  go_ret
  exact ⟨rfl, HB.out.trans (hb1.mono HB.out.size)⟩
set_option maxHeartbeats 1600000 in
theorem tellL0 (n : Int) (n1 : n ≠ 1) (n2 : n ≠ 2) (n3 : n ≠ 3) (A A' : Option Addr) (c c' : Nat) (x y : Thing) (hx : Small x) (hy : Small y) (w : World) (s1 : Sl w w.heap.size A (iv x.vec)) (s2 : Sl w w.heap.size A' (iv y.vec)) :
    Calls Try.prog 26 #[.int .i64 n, .agg #[.int .i64 x.tag, .slice A x.vec.length c, .string x.str], .agg #[.int .i64 y.tag, .slice A' y.vec.length c', .string y.str], .func (.func 30) #[] #[], .func (.func 31) #[] #[], .func (.func 32) #[] #[]] w (Gives (.int .i64 (Lo n x y)) w) := by
  obtain ⟨hb, hba, hbb⟩ := two_box w 24 #[.int .i64 x.tag, .slice A x.vec.length c, .string x.str] #[.int .i64 y.tag, .slice A' y.vec.length c', .string y.str]
  have e1 : (n == 1) = false := by simpa using n1
  have e2 : (n == 2) = false := by simpa using n2
  have e3 : (n == 3) = false := by simpa using n3
  rw [Lo_0 n1 n2 n3]
  obtain ⟨c0, c1, c2, cf⟩ := cells3 hba
  obtain ⟨d0, d1, d2, df⟩ := cells3 hbb
  have HB := Lib.hid hb
  clear hb hx hy s1 s2 hba hbb n1 n2 n3
  go_enter Try.func26, Try.ntmps26
  go_wp2_with (fail)
  go_ret
  exact ⟨rfl, HB.out⟩
theorem tellL (n : Int) (A A' : Option Addr) (c c' : Nat) (x y : Thing) (hx : Small x) (hy : Small y) (w : World) (s1 : Sl w w.heap.size A (iv x.vec)) (s2 : Sl w w.heap.size A' (iv y.vec)) :
    Calls Try.prog 26 #[.int .i64 n, .agg #[.int .i64 x.tag, .slice A x.vec.length c, .string x.str], .agg #[.int .i64 y.tag, .slice A' y.vec.length c', .string y.str], .func (.func 30) #[] #[], .func (.func 31) #[] #[], .func (.func 32) #[] #[]] w (Gives (.int .i64 (Lo n x y)) w) := by
  refine cases4 (p := fun n => Calls Try.prog 26 #[.int .i64 n, .agg #[.int .i64 x.tag, .slice A x.vec.length c, .string x.str], .agg #[.int .i64 y.tag, .slice A' y.vec.length c', .string y.str], .func (.func 30) #[] #[], .func (.func 31) #[] #[], .func (.func 32) #[] #[]] w (Gives (.int .i64 (Lo n x y)) w)) ?_ ?_ ?_ ?_ n
  · exact tellL1 A A' c c' x y hx hy w s1 s2
  · exact tellL2 A A' c c' x y hx hy w s1 s2
  · exact tellL3 A A' c c' x y hx hy w s1 s2
  · intro n n1 n2 n3
    exact tellL0 n n1 n2 n3 A A' c c' x y hx hy w s1 s2
set_option maxHeartbeats 800000 in
theorem mleast_any (n : Int) (A A' : Option Addr) (c c' : Nat) (x y : Thing) (hx : Small x) (hy : Small y) (w : World) (s1 : Sl w w.heap.size A (iv x.vec)) (s2 : Sl w w.heap.size A' (iv y.vec)) :
    Calls Try.prog 11 #[.int .i64 n, .agg #[.int .i64 x.tag, .slice A x.vec.length c, .string x.str], .agg #[.int .i64 y.tag, .slice A' y.vec.length c', .string y.str]] w (Gives (.int .i64 (Lo n x y)) w) := by
  obtain ⟨hb, hba, hbb⟩ := two_box w 24 #[.int .i64 x.tag, .slice A x.vec.length c, .string x.str] #[.int .i64 y.tag, .slice A' y.vec.length c', .string y.str]
  have H := Lib.hid (tellL n A A' c c' x y hx hy _ ((s1.below hb).more hb.size) ((s2.below hb).more hb.size))
  generalize Lo n x y = d at H ⊢
  obtain ⟨c0, c1, c2, cf⟩ := cells3 hba
  obtain ⟨d0, d1, d2, df⟩ := cells3 hbb
  have HB := Lib.hid hb
  clear hb hx hy s1 s2 hba hbb
  go_enter Try.func11, Try.ntmps11
  go_wp2_with (fail)
  refine H.out.mono ?_
  rintro e w1 ⟨rfl, hb1⟩
  go_wp2_with (fail)
  go_ret
  exact ⟨rfl, HB.out.trans (hb1.mono HB.out.size)⟩
end Go.Proofs.Ytdfakjpchgomdaa.metric
