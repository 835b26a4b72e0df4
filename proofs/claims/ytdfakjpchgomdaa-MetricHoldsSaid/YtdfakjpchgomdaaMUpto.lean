/-
  The contract of metric.Upto; the document's own Dist and Least.
-/
import Derived.Test.YtdfakjpchgomdaaTell
namespace Go.Proofs.Ytdfakjpchgomdaa.metric
open Go.RowKit law bytes nums ord obj
set_option linter.unusedVariables false

/-- what Upto says: how far, if that isn't above a number -/
def ups (d most : Int) : Int := if d ≤ most then d else 0
def upv (d most : Int) : Value := .tuple #[.int .i64 (ups d most), .bool (decide (d ≤ most))]
theorem lev_upto (a b : ByteArray) (ha : a.size ≤ 1048576) (hb : b.size ≤ 1048576) (most : Int) (w : World) :
    Calls Try.prog 25 #[.string a, .string b, .int .i64 most] w (Gives (upv (lev.L (lev.bl a) (lev.bl b)) most) w) := by
  unfold upv ups
  by_cases h : (lev.L (lev.bl a) (lev.bl b) : Int) ≤ most
  · rw [if_pos h, decide_eq_true h]
    exact lev.upto_yes a b ha hb most h w
  · rw [if_neg h, decide_eq_false h]
    exact lev.upto_no a b ha hb most (by omega) w
set_option maxHeartbeats 1600000 in
theorem upto1 (A A' : Option Addr) (c c' : Nat) (x y : Thing) (hx : Small x) (hy : Small y) (w : World) (s1 : Sl w w.heap.size A (iv x.vec)) (s2 : Sl w w.heap.size A' (iv y.vec)) (most : Int) :
    Calls Try.prog 9 #[.int .i64 1, .agg #[.int .i64 x.tag, .slice A x.vec.length c, .string x.str], .agg #[.int .i64 y.tag, .slice A' y.vec.length c', .string y.str], .int .i64 most] w (Gives (upv (M 1 x y) most) w) := by
  obtain ⟨hb, hba, hbb⟩ := two_box w 24 #[.int .i64 x.tag, .slice A x.vec.length c, .string x.str] #[.int .i64 y.tag, .slice A' y.vec.length c', .string y.str]
  have hV : ∀ V, V = (w.alloc (.cells #[.int .i64 x.tag, .slice A x.vec.length c, .string x.str] 24)).alloc (.cells #[.int .i64 y.tag, .slice A' y.vec.length c', .string y.str] 24) → Calls Try.prog 24 #[.slice A x.vec.length c, .slice A' y.vec.length c', .int .i64 most] V (Gives (upv (M 1 x y) most) V) := by
    intro V hV
    rw [← hV] at hb
    exact lone.upto_any A A' c c' x.vec y.vec hx.1 hy.1 hx.2.1 hy.2.1 most V ((s1.below hb).more hb.size) ((s2.below hb).more hb.size)
  have H0 := hV _ rfl
  clear hV
  unfold upv at H0 ⊢
  generalize ups (M 1 x y) most = r at H0 ⊢
  generalize decide (M 1 x y ≤ most) = o at H0 ⊢
  have H := Lib.hid H0
  clear H0
  obtain ⟨c0, c1, c2, cf⟩ := cells3 hba
  obtain ⟨d0, d1, d2, df⟩ := cells3 hbb
  have HB := Lib.hid hb
  clear hb hx hy s1 s2 hba hbb
  go_enter Try.func9, Try.ntmps9
  go_wp2_with (fail)
  refine H.out.mono ?_
  rintro e w1 ⟨rfl, hb1⟩
  go_wp2_with (fail)
  refine bodyPost_ret (v := .tuple #[.int .i64 r, .bool o]) (by simp [results, Try.results9, go_sem]) rfl ?_
  exact ⟨rfl, HB.out.trans (hb1.mono HB.out.size)⟩
set_option maxHeartbeats 1600000 in
theorem upto2 (A A' : Option Addr) (c c' : Nat) (x y : Thing) (hx : Small x) (hy : Small y) (w : World) (s1 : Sl w w.heap.size A (iv x.vec)) (s2 : Sl w w.heap.size A' (iv y.vec)) (most : Int) :
    Calls Try.prog 9 #[.int .i64 2, .agg #[.int .i64 x.tag, .slice A x.vec.length c, .string x.str], .agg #[.int .i64 y.tag, .slice A' y.vec.length c', .string y.str], .int .i64 most] w (Gives (upv (M 2 x y) most) w) := by
  obtain ⟨hb, hba, hbb⟩ := two_box w 24 #[.int .i64 x.tag, .slice A x.vec.length c, .string x.str] #[.int .i64 y.tag, .slice A' y.vec.length c', .string y.str]
  have hV : ∀ V, V = (w.alloc (.cells #[.int .i64 x.tag, .slice A x.vec.length c, .string x.str] 24)).alloc (.cells #[.int .i64 y.tag, .slice A' y.vec.length c', .string y.str] 24) → Calls Try.prog 23 #[.string x.str, .string y.str, .int .i64 most] V (Gives (upv (M 2 x y) most) V) := by
    intro V hV
    rw [← hV] at hb
    exact still_gives (ham.upto_any x.str y.str (Nat.le_trans hx.2.2 (by decide)) (Nat.le_trans hy.2.2 (by decide)) most V)
  have H0 := hV _ rfl
  clear hV
  unfold upv at H0 ⊢
  generalize ups (M 2 x y) most = r at H0 ⊢
  generalize decide (M 2 x y ≤ most) = o at H0 ⊢
  have H := Lib.hid H0
  clear H0
  obtain ⟨c0, c1, c2, cf⟩ := cells3 hba
  obtain ⟨d0, d1, d2, df⟩ := cells3 hbb
  have HB := Lib.hid hb
  clear hb hx hy s1 s2 hba hbb
  go_enter Try.func9, Try.ntmps9
  go_wp2_with (fail)
  refine H.out.mono ?_
  rintro e w1 ⟨rfl, hb1⟩
  go_wp2_with (fail)
  refine bodyPost_ret (v := .tuple #[.int .i64 r, .bool o]) (by simp [results, Try.results9, go_sem]) rfl ?_
  exact ⟨rfl, HB.out.trans (hb1.mono HB.out.size)⟩
set_option maxHeartbeats 1600000 in
theorem upto3 (A A' : Option Addr) (c c' : Nat) (x y : Thing) (hx : Small x) (hy : Small y) (w : World) (s1 : Sl w w.heap.size A (iv x.vec)) (s2 : Sl w w.heap.size A' (iv y.vec)) (most : Int) :
    Calls Try.prog 9 #[.int .i64 3, .agg #[.int .i64 x.tag, .slice A x.vec.length c, .string x.str], .agg #[.int .i64 y.tag, .slice A' y.vec.length c', .string y.str], .int .i64 most] w (Gives (upv (M 3 x y) most) w) := by
  obtain ⟨hb, hba, hbb⟩ := two_box w 24 #[.int .i64 x.tag, .slice A x.vec.length c, .string x.str] #[.int .i64 y.tag, .slice A' y.vec.length c', .string y.str]
  have hV : ∀ V, V = (w.alloc (.cells #[.int .i64 x.tag, .slice A x.vec.length c, .string x.str] 24)).alloc (.cells #[.int .i64 y.tag, .slice A' y.vec.length c', .string y.str] 24) → Calls Try.prog 25 #[.string x.str, .string y.str, .int .i64 most] V (Gives (upv (M 3 x y) most) V) := by
    intro V hV
    rw [← hV] at hb
    exact lev_upto x.str y.str hx.2.2 hy.2.2 most V
  have H0 := hV _ rfl
  clear hV
  unfold upv at H0 ⊢
  generalize ups (M 3 x y) most = r at H0 ⊢
  generalize decide (M 3 x y ≤ most) = o at H0 ⊢
  have H := Lib.hid H0
  clear H0
  obtain ⟨c0, c1, c2, cf⟩ := cells3 hba
  obtain ⟨d0, d1, d2, df⟩ := cells3 hbb
  have HB := Lib.hid hb
  clear hb hx hy s1 s2 hba hbb
  go_enter Try.func9, Try.ntmps9
  go_wp2_with (fail)
  refine H.out.mono ?_
  rintro e w1 ⟨rfl, hb1⟩
  go_wp2_with (fail)
  refine bodyPost_ret (v := .tuple #[.int .i64 r, .bool o]) (by simp [results, Try.results9, go_sem]) rfl ?_
  exact ⟨rfl, HB.out.trans (hb1.mono HB.out.size)⟩
set_option maxHeartbeats 1600000 in
theorem upto0 (n : Int) (n1 : n ≠ 1) (n2 : n ≠ 2) (n3 : n ≠ 3) (A A' : Option Addr) (c c' : Nat) (x y : Thing) (hx : Small x) (hy : Small y) (w : World) (s1 : Sl w w.heap.size A (iv x.vec)) (s2 : Sl w w.heap.size A' (iv y.vec)) (most : Int) :
    Calls Try.prog 9 #[.int .i64 n, .agg #[.int .i64 x.tag, .slice A x.vec.length c, .string x.str], .agg #[.int .i64 y.tag, .slice A' y.vec.length c', .string y.str], .int .i64 most] w (Gives (upv (M n x y) most) w) := by
  obtain ⟨hb, hba, hbb⟩ := two_box w 24 #[.int .i64 x.tag, .slice A x.vec.length c, .string x.str] #[.int .i64 y.tag, .slice A' y.vec.length c', .string y.str]
  have e1 : (n == 1) = false := by simpa using n1
  have e2 : (n == 2) = false := by simpa using n2
  have e3 : (n == 3) = false := by simpa using n3
  rw [M_0 n1 n2 n3]
  have hu : upv 0 most = .tuple #[.int .i64 0, .bool (decide (most ≥ 0))] := by
    unfold upv ups
    have : (decide (0 ≤ most)) = decide (most ≥ 0) := rfl
    rw [this]
    split <;> rfl
  have HU := Lib.hid hu
  clear hu
  obtain ⟨c0, c1, c2, cf⟩ := cells3 hba
  obtain ⟨d0, d1, d2, df⟩ := cells3 hbb
  have HB := Lib.hid hb
  clear hb hx hy s1 s2 hba hbb n1 n2 n3
  go_enter Try.func9, Try.ntmps9
  go_wp2_with (fail)
  rw [HU.out]
  refine bodyPost_ret (v := .tuple #[.int .i64 0, .bool (decide (most ≥ 0))]) (by simp [results, Try.results9, go_sem]) rfl ?_
  exact ⟨rfl, HB.out⟩
theorem mupto_any (n : Int) (A A' : Option Addr) (c c' : Nat) (x y : Thing) (hx : Small x) (hy : Small y) (w : World) (s1 : Sl w w.heap.size A (iv x.vec)) (s2 : Sl w w.heap.size A' (iv y.vec)) (most : Int) :
    Calls Try.prog 9 #[.int .i64 n, .agg #[.int .i64 x.tag, .slice A x.vec.length c, .string x.str], .agg #[.int .i64 y.tag, .slice A' y.vec.length c', .string y.str], .int .i64 most] w (Gives (upv (M n x y) most) w) := by
  refine cases4 (p := fun n => Calls Try.prog 9 #[.int .i64 n, .agg #[.int .i64 x.tag, .slice A x.vec.length c, .string x.str], .agg #[.int .i64 y.tag, .slice A' y.vec.length c', .string y.str], .int .i64 most] w (Gives (upv (M n x y) most) w)) ?_ ?_ ?_ ?_ n
  · exact upto1 A A' c c' x y hx hy w s1 s2 most
  · exact upto2 A A' c c' x y hx hy w s1 s2 most
  · exact upto3 A A' c c' x y hx hy w s1 s2 most
  · intro n n1 n2 n3
    exact upto0 n n1 n2 n3 A A' c c' x y hx hy w s1 s2 most
set_option maxHeartbeats 1600000 in
theorem rdist1 (A A' : Option Addr) (c c' : Nat) (x y : Thing) (hx : Small x) (hy : Small y) (w : World) (s1 : Sl w w.heap.size A (iv x.vec)) (s2 : Sl w w.heap.size A' (iv y.vec)) :
    Calls Try.prog 8 #[.int .i64 1, .agg #[.int .i64 x.tag, .slice A x.vec.length c, .string x.str], .agg #[.int .i64 y.tag, .slice A' y.vec.length c', .string y.str]] w (Gives (.int .i64 (M 1 x y)) w) := by
  obtain ⟨hb, hba, hbb⟩ := two_box w 24 #[.int .i64 x.tag, .slice A x.vec.length c, .string x.str] #[.int .i64 y.tag, .slice A' y.vec.length c', .string y.str]
  have hV : ∀ V, V = (w.alloc (.cells #[.int .i64 x.tag, .slice A x.vec.length c, .string x.str] 24)).alloc (.cells #[.int .i64 y.tag, .slice A' y.vec.length c', .string y.str] 24) → Calls Try.prog 20 #[.slice A x.vec.length c, .slice A' y.vec.length c'] V (Gives (.int .i64 (M 1 x y)) V) := by
    intro V hV
    rw [← hV] at hb
    exact lone.rdist_any A A' c c' x.vec y.vec hx.1 hy.1 hx.2.1 hy.2.1 V ((s1.below hb).more hb.size) ((s2.below hb).more hb.size)
  have H := Lib.hid (hV _ rfl)
  clear hV
  generalize M 1 x y = d at H ⊢
  obtain ⟨c0, c1, c2, cf⟩ := cells3 hba
  obtain ⟨d0, d1, d2, df⟩ := cells3 hbb
  have HB := Lib.hid hb
  clear hb hx hy s1 s2 hba hbb
  go_enter Try.func8, Try.ntmps8
  go_wp2_with (fail)
  refine H.out.mono ?_
  rintro e w1 ⟨rfl, hb1⟩
  go_wp2_with (fail)
  go_ret
  exact ⟨rfl, HB.out.trans (hb1.mono HB.out.size)⟩
set_option maxHeartbeats 1600000 in
theorem rdist2 (A A' : Option Addr) (c c' : Nat) (x y : Thing) (hx : Small x) (hy : Small y) (w : World) (s1 : Sl w w.heap.size A (iv x.vec)) (s2 : Sl w w.heap.size A' (iv y.vec)) :
    Calls Try.prog 8 #[.int .i64 2, .agg #[.int .i64 x.tag, .slice A x.vec.length c, .string x.str], .agg #[.int .i64 y.tag, .slice A' y.vec.length c', .string y.str]] w (Gives (.int .i64 (M 2 x y)) w) := by
  obtain ⟨hb, hba, hbb⟩ := two_box w 24 #[.int .i64 x.tag, .slice A x.vec.length c, .string x.str] #[.int .i64 y.tag, .slice A' y.vec.length c', .string y.str]
  have hV : ∀ V, V = (w.alloc (.cells #[.int .i64 x.tag, .slice A x.vec.length c, .string x.str] 24)).alloc (.cells #[.int .i64 y.tag, .slice A' y.vec.length c', .string y.str] 24) → Calls Try.prog 21 #[.string x.str, .string y.str] V (Gives (.int .i64 (M 2 x y)) V) := by
    intro V hV
    rw [← hV] at hb
    exact still_gives (ham.rdist_any x.str y.str (Nat.le_trans hx.2.2 (by decide)) (Nat.le_trans hy.2.2 (by decide)) V)
  have H := Lib.hid (hV _ rfl)
  clear hV
  generalize M 2 x y = d at H ⊢
  obtain ⟨c0, c1, c2, cf⟩ := cells3 hba
  obtain ⟨d0, d1, d2, df⟩ := cells3 hbb
  have HB := Lib.hid hb
  clear hb hx hy s1 s2 hba hbb
  go_enter Try.func8, Try.ntmps8
  go_wp2_with (fail)
  refine H.out.mono ?_
  rintro e w1 ⟨rfl, hb1⟩
  go_wp2_with (fail)
  go_ret
  exact ⟨rfl, HB.out.trans (hb1.mono HB.out.size)⟩
set_option maxHeartbeats 1600000 in
theorem rdist3 (A A' : Option Addr) (c c' : Nat) (x y : Thing) (hx : Small x) (hy : Small y) (w : World) (s1 : Sl w w.heap.size A (iv x.vec)) (s2 : Sl w w.heap.size A' (iv y.vec)) :
    Calls Try.prog 8 #[.int .i64 3, .agg #[.int .i64 x.tag, .slice A x.vec.length c, .string x.str], .agg #[.int .i64 y.tag, .slice A' y.vec.length c', .string y.str]] w (Gives (.int .i64 (M 3 x y)) w) := by
  obtain ⟨hb, hba, hbb⟩ := two_box w 24 #[.int .i64 x.tag, .slice A x.vec.length c, .string x.str] #[.int .i64 y.tag, .slice A' y.vec.length c', .string y.str]
  have hV : ∀ V, V = (w.alloc (.cells #[.int .i64 x.tag, .slice A x.vec.length c, .string x.str] 24)).alloc (.cells #[.int .i64 y.tag, .slice A' y.vec.length c', .string y.str] 24) → Calls Try.prog 22 #[.string x.str, .string y.str] V (Gives (.int .i64 (M 3 x y)) V) := by
    intro V hV
    rw [← hV] at hb
    exact lev.rdist_any x.str y.str hx.2.2 hy.2.2 V
  have H := Lib.hid (hV _ rfl)
  clear hV
  generalize M 3 x y = d at H ⊢
  obtain ⟨c0, c1, c2, cf⟩ := cells3 hba
  obtain ⟨d0, d1, d2, df⟩ := cells3 hbb
  have HB := Lib.hid hb
  clear hb hx hy s1 s2 hba hbb
  go_enter Try.func8, Try.ntmps8
  go_wp2_with (fail)
  refine H.out.mono ?_
  rintro e w1 ⟨rfl, hb1⟩
  go_wp2_with (fail)
  go_ret
  exact ⟨rfl, HB.out.trans (hb1.mono HB.out.size)⟩
set_option maxHeartbeats 1600000 in
theorem rdist0 (n : Int) (n1 : n ≠ 1) (n2 : n ≠ 2) (n3 : n ≠ 3) (A A' : Option Addr) (c c' : Nat) (x y : Thing) (hx : Small x) (hy : Small y) (w : World) (s1 : Sl w w.heap.size A (iv x.vec)) (s2 : Sl w w.heap.size A' (iv y.vec)) :
    Calls Try.prog 8 #[.int .i64 n, .agg #[.int .i64 x.tag, .slice A x.vec.length c, .string x.str], .agg #[.int .i64 y.tag, .slice A' y.vec.length c', .string y.str]] w (Gives (.int .i64 (M n x y)) w) := by
  obtain ⟨hb, hba, hbb⟩ := two_box w 24 #[.int .i64 x.tag, .slice A x.vec.length c, .string x.str] #[.int .i64 y.tag, .slice A' y.vec.length c', .string y.str]
  have e1 : (n == 1) = false := by simpa using n1
  have e2 : (n == 2) = false := by simpa using n2
  have e3 : (n == 3) = false := by simpa using n3
  rw [M_0 n1 n2 n3]
  obtain ⟨c0, c1, c2, cf⟩ := cells3 hba
  obtain ⟨d0, d1, d2, df⟩ := cells3 hbb
  have HB := Lib.hid hb
  clear hb hx hy s1 s2 hba hbb n1 n2 n3
  go_enter Try.func8, Try.ntmps8
  go_wp2_with (fail)
  go_ret
  exact ⟨rfl, HB.out⟩
theorem rdist_any (n : Int) (A A' : Option Addr) (c c' : Nat) (x y : Thing) (hx : Small x) (hy : Small y) (w : World) (s1 : Sl w w.heap.size A (iv x.vec)) (s2 : Sl w w.heap.size A' (iv y.vec)) :
    Calls Try.prog 8 #[.int .i64 n, .agg #[.int .i64 x.tag, .slice A x.vec.length c, .string x.str], .agg #[.int .i64 y.tag, .slice A' y.vec.length c', .string y.str]] w (Gives (.int .i64 (M n x y)) w) := by
  refine cases4 (p := fun n => Calls Try.prog 8 #[.int .i64 n, .agg #[.int .i64 x.tag, .slice A x.vec.length c, .string x.str], .agg #[.int .i64 y.tag, .slice A' y.vec.length c', .string y.str]] w (Gives (.int .i64 (M n x y)) w)) ?_ ?_ ?_ ?_ n
  · exact rdist1 A A' c c' x y hx hy w s1 s2
  · exact rdist2 A A' c c' x y hx hy w s1 s2
  · exact rdist3 A A' c c' x y hx hy w s1 s2
  · intro n n1 n2 n3
    exact rdist0 n n1 n2 n3 A A' c c' x y hx hy w s1 s2
end Go.Proofs.Ytdfakjpchgomdaa.metric
