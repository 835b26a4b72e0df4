/-
  Several texts in one.
-/
import Derived.Test.YtaamlidflfdjkaaGLev
import Derived.Test.YtaamlidflfdjkaaGLone
import Derived.Test.YtaamlidflfdjkaaGHam
import Derived.Test.YtaamlidflfdjkaaGObk
import Derived.Deep.RegionHeld3
set_option maxRecDepth 100000
/-
  Program-free: how far things are apart by each metric; that it is a metric.
-/
namespace Go.Proofs.Ytaamlidflfdjkaa.metric
open Go.RowKit law bytes nums ord
set_option linter.unusedVariables false

/-- numbers of 32 bits, not too many; texts not too long -/
def Small (x : Thing) : Prop := dist.Bd x.vec ∧ x.vec.length ≤ 1048576 ∧ x.str.size ≤ 1048576
def M (n : Int) (x y : Thing) : Int :=
  if n = 1 then dist.D x.vec y.vec else if n = 2 then (ham.D x.str y.str : Int) else if n = 3 then (lev.L (lev.bl x.str) (lev.bl y.str) : Int) else 0
def gap (a b : ByteArray) : Int := max ((a.size : Int) - (b.size : Int)) ((b.size : Int) - (a.size : Int))
def Lo (n : Int) (x y : Thing) : Int :=
  if n = 1 then dist.gp (dist.D x.vec []) (dist.D y.vec []) else if n = 2 then gap x.str y.str else if n = 3 then (lev.least (lev.bl x.str) (lev.bl y.str) : Int) else 0
theorem M_1 (x y : Thing) : M 1 x y = dist.D x.vec y.vec := rfl
theorem M_2 (x y : Thing) : M 2 x y = (ham.D x.str y.str : Int) := rfl
theorem M_3 (x y : Thing) : M 3 x y = (lev.L (lev.bl x.str) (lev.bl y.str) : Int) := rfl
theorem M_0 {n : Int} (h1 : n ≠ 1) (h2 : n ≠ 2) (h3 : n ≠ 3) (x y : Thing) : M n x y = 0 := by unfold M; rw [if_neg h1, if_neg h2, if_neg h3]
theorem Lo_1 (x y : Thing) : Lo 1 x y = dist.gp (dist.D x.vec []) (dist.D y.vec []) := rfl
theorem Lo_2 (x y : Thing) : Lo 2 x y = gap x.str y.str := rfl
theorem Lo_3 (x y : Thing) : Lo 3 x y = (lev.least (lev.bl x.str) (lev.bl y.str) : Int) := rfl
theorem Lo_0 {n : Int} (h1 : n ≠ 1) (h2 : n ≠ 2) (h3 : n ≠ 3) (x y : Thing) : Lo n x y = 0 := by unfold Lo; rw [if_neg h1, if_neg h2, if_neg h3]
/-- a metric, told in four ways -/
theorem cases4 {p : Int → Prop} (h1 : p 1) (h2 : p 2) (h3 : p 3) (h0 : ∀ n, n ≠ 1 → n ≠ 2 → n ≠ 3 → p n) (n : Int) : p n := by
  by_cases e1 : n = 1
  · exact e1 ▸ h1
  by_cases e2 : n = 2
  · exact e2 ▸ h2
  by_cases e3 : n = 3
  · exact e3 ▸ h3
  exact h0 n e1 e2 e3
theorem M_nonneg (n : Int) (x y : Thing) : 0 ≤ M n x y := by
  unfold M
  have := dist.D_nonneg x.vec y.vec
  split
  · exact this
  · split
    · omega
    · split <;> omega
theorem M_symm (n : Int) (x y : Thing) : M n x y = M n y x := by
  unfold M
  rw [dist.D_symm x.vec y.vec, ham.D_symm x.str y.str, lev.L_symm (lev.bl x.str)]
theorem M_tri (n : Int) (x y z : Thing) : M n x y ≤ M n x z + M n z y := by
  unfold M
  have h1 := dist.D_tri x.vec y.vec z.vec
  have h2 := ham.D_tri x.str y.str z.str
  have h3 := lev.L_tri (lev.bl x.str) (lev.bl y.str) (lev.bl z.str)
  split
  · exact h1
  · split
    · omega
    · split <;> omega
theorem ham_gap (a b : ByteArray) : gap a b ≤ (ham.D a b : Int) := by
  have h := ham.D_eq a b
  unfold ham.mx ham.lo at h
  unfold gap
  omega
theorem Lo_le (n : Int) (x y : Thing) : Lo n x y ≤ M n x y := by
  unfold M Lo
  have h1 := dist.D_least x.vec y.vec
  have h2 := ham_gap x.str y.str
  have h3 := lev.least_le (lev.bl x.str) (lev.bl y.str)
  split
  · exact h1
  · split
    · exact h2
    · split <;> omega
theorem Lo_nonneg (n : Int) (x y : Thing) : 0 ≤ Lo n x y := by
  unfold Lo
  split
  · unfold dist.gp; omega
  · split
    · unfold gap; omega
    · split <;> omega
/-- things of at most 65536 numbers or bytes -/
theorem M_le {n : Int} {x y : Thing} (hx : dist.Bd x.vec) (hy : dist.Bd y.vec) (h1 : x.vec.length ≤ 65536) (h2 : y.vec.length ≤ 65536) (h3 : x.str.size ≤ 65536) (h4 : y.str.size ≤ 65536) : M n x y ≤ 281474976710656 := by
  unfold M
  split
  · have h := dist.D_le hx hy
    have hm : dist.mx x.vec y.vec ≤ 65536 := by unfold dist.mx; omega
    have : (dist.mx x.vec y.vec : Int) * 4294967295 ≤ 65536 * 4294967295 := by omega
    omega
  · split
    · have h := ham.D_le x.str y.str
      unfold ham.mx at h
      omega
    · split
      · have h := lev.L_max (lev.bl x.str) (lev.bl y.str)
        rw [lev.bl_len, lev.bl_len] at h
        omega
      · omega
theorem M_small {n : Int} {x y : Thing} (hx : Small x) (hy : Small y) : M n x y ≤ 4503599627370496 := by
  unfold M
  split
  · exact dist.D_small hx.1 hy.1 hx.2.1 hy.2.1
  · have h1 := hx.2.2
    have h2 := hy.2.2
    split
    · have h := ham.D_le x.str y.str
      unfold ham.mx at h
      omega
    · split
      · have h := lev.L_max (lev.bl x.str) (lev.bl y.str)
        rw [lev.bl_len, lev.bl_len] at h
        omega
      · omega
/-- of right things the same ones, and no others, are 0 apart -/
theorem M_zero {n s : Int} {x y : Thing} (hx : rightO x n s = true) (hy : rightO y n s = true) : M n x y = 0 ↔ x = y := by
  obtain ⟨tx, vx, sx⟩ := x
  obtain ⟨ty, vy, sy⟩ := y
  unfold rightO at hx hy
  simp only at hx hy
  by_cases hs : s < 0 ∨ 65536 < s
  · rw [if_pos hs] at hx; cases hx
  rw [if_neg hs] at hx hy
  by_cases e1 : n = 1
  · subst e1
    simp only [if_true, Bool.and_eq_true, decide_eq_true_eq] at hx hy
    obtain ⟨⟨rfl, h1⟩, h2⟩ := hx
    obtain ⟨⟨rfl, h3⟩, h4⟩ := hy
    obtain rfl : sx = sy := by rw [ByteArray.size_eq_zero_iff.1 h2, ByteArray.size_eq_zero_iff.1 h4]
    show dist.D vx vy = 0 ↔ _
    rw [dist.D_zero]
    constructor
    · intro h
      have hl : vx.length = vy.length := by omega
      have : vx = vy := List.ext_getElem hl fun j h1 h2 => by
        have := h j (by unfold dist.mx; omega)
        rwa [dist.nm_lt h1, dist.nm_lt h2] at this
      rw [this]
    · intro h
      injection h with _ h _
      subst h
      intros; rfl
  by_cases e2 : n = 2
  · subst e2
    simp only [show ¬ (2 : Int) = 1 from by decide, if_false, if_true, Bool.and_eq_true, decide_eq_true_eq] at hx hy
    obtain ⟨⟨rfl, h1⟩, h2⟩ := hx
    obtain ⟨⟨rfl, h3⟩, h4⟩ := hy
    obtain rfl : vx = vy := by rw [List.eq_nil_of_length_eq_zero h2, List.eq_nil_of_length_eq_zero h4]
    rw [M_2]
    have hz := ham.D_zero sx sy
    constructor
    · intro h
      rw [hz.1 (by simpa using h)]
    · intro h
      injection h with _ _ h
      have := hz.2 h
      simp only
      omega
  by_cases e3 : n = 3
  · subst e3
    simp only [show ¬ (3 : Int) = 1 from by decide, show ¬ (3 : Int) = 2 from by decide, if_false, decide_true, Bool.true_and, Bool.and_eq_true, decide_eq_true_eq] at hx hy
    obtain ⟨⟨rfl, h1⟩, h2⟩ := hx
    obtain ⟨⟨rfl, h3⟩, h4⟩ := hy
    obtain rfl : vx = vy := by rw [List.eq_nil_of_length_eq_zero h2, List.eq_nil_of_length_eq_zero h4]
    rw [M_3]
    have hz := lev.L_zero (lev.bl sx) (lev.bl sy)
    constructor
    · intro h
      rw [lev.bl_ext (hz.1 (by simpa using h))]
    · intro h
      injection h with _ _ h
      subst h
      have := hz.2 rfl
      simp only
      omega
  · simp [e1, e2, e3] at hx
end Go.Proofs.Ytaamlidflfdjkaa.metric
/-
  The contracts of metric.tell, Dist, Upto, Least.
-/
namespace Go.Proofs.Ytaamlidflfdjkaa.metric
open Go.RowKit law bytes nums ord obj
set_option linter.unusedVariables false

theorem still_gives {P : Program} {f : FuncId} {args : Array Value} {v : Value} {w : World} (h : Calls P f args w (ham.Still v w)) : Calls P f args w (Gives v w) :=
  h.mono fun e w' ⟨he, k, hk⟩ => ⟨he, by rw [hk]; exact below_drewN' (Below.refl _ _) k⟩
theorem same_gives {P : Program} {f : FuncId} {args : Array Value} {v : Value} {w : World} (h : Calls P f args w fun e w' => e = .returned v ∧ w = w') : Calls P f args w (Gives v w) :=
  h.mono fun e w' ⟨he, hw⟩ => ⟨he, by subst hw; exact Below.refl _ _⟩
/-- two things in new memory -/
def two (w : World) (A A' : Option Addr) (c c' : Nat) (x y : Thing) : World := (w.alloc (.cells #[.int .i64 x.tag, .slice A x.vec.length c, .string x.str] 36)).alloc (.cells #[.int .i64 y.tag, .slice A' y.vec.length c', .string y.str] 36)
set_option maxHeartbeats 1600000 in
theorem tellD1 (A A' : Option Addr) (c c' : Nat) (x y : Thing) (hx : Small x) (hy : Small y) (w : World) (s1 : Sl w w.heap.size A (iv x.vec)) (s2 : Sl w w.heap.size A' (iv y.vec)) :
    Calls Try.prog 48 #[.int .i64 1, .agg #[.int .i64 x.tag, .slice A x.vec.length c, .string x.str], .agg #[.int .i64 y.tag, .slice A' y.vec.length c', .string y.str], .func (.func 49) #[] #[], .func (.func 50) #[] #[], .func (.func 51) #[] #[]] w (Gives (.int .i64 (M 1 x y)) w) := by
  obtain ⟨hb, hba, hbb⟩ := two_box w 36 #[.int .i64 x.tag, .slice A x.vec.length c, .string x.str] #[.int .i64 y.tag, .slice A' y.vec.length c', .string y.str]
  have hV : ∀ V, V = (w.alloc (.cells #[.int .i64 x.tag, .slice A x.vec.length c, .string x.str] 36)).alloc (.cells #[.int .i64 y.tag, .slice A' y.vec.length c', .string y.str] 36) → Calls Try.prog 49 #[.slice A x.vec.length c, .slice A' y.vec.length c'] V (Gives (.int .i64 (M 1 x y)) V) := by
    intro V hV
    rw [← hV] at hb
    have h : Calls Try.prog 49 #[.slice A x.vec.length c, .slice A' y.vec.length c'] V (Gives (.int .i64 (M 1 x y)) V) := lone.dist_any A A' c c' x.vec y.vec hx.1 hy.1 hx.2.1 hy.2.1 V ((s1.below hb).more hb.size) ((s2.below hb).more hb.size)
    exact h
  have H := Lib.hid (hV _ rfl)
  clear hV
  generalize M 1 x y = d at H ⊢
  obtain ⟨c0, c1, c2, cf⟩ := cells3 hba
  obtain ⟨d0, d1, d2, df⟩ := cells3 hbb
  have HB := Lib.hid hb
  clear hb hx hy s1 s2 hba hbb
  go_enter Try.func48, Try.ntmps48
  go_wp2_with (fail)
  refine H.out.mono ?_
  rintro e w1 ⟨rfl, hb1⟩
  go_wp2_with (fail)
  go_ret
  exact ⟨rfl, HB.out.trans (hb1.mono HB.out.size)⟩
set_option maxHeartbeats 1600000 in
theorem tellD2 (A A' : Option Addr) (c c' : Nat) (x y : Thing) (hx : Small x) (hy : Small y) (w : World) (s1 : Sl w w.heap.size A (iv x.vec)) (s2 : Sl w w.heap.size A' (iv y.vec)) :
    Calls Try.prog 48 #[.int .i64 2, .agg #[.int .i64 x.tag, .slice A x.vec.length c, .string x.str], .agg #[.int .i64 y.tag, .slice A' y.vec.length c', .string y.str], .func (.func 49) #[] #[], .func (.func 50) #[] #[], .func (.func 51) #[] #[]] w (Gives (.int .i64 (M 2 x y)) w) := by
  obtain ⟨hb, hba, hbb⟩ := two_box w 36 #[.int .i64 x.tag, .slice A x.vec.length c, .string x.str] #[.int .i64 y.tag, .slice A' y.vec.length c', .string y.str]
  have hV : ∀ V, V = (w.alloc (.cells #[.int .i64 x.tag, .slice A x.vec.length c, .string x.str] 36)).alloc (.cells #[.int .i64 y.tag, .slice A' y.vec.length c', .string y.str] 36) → Calls Try.prog 50 #[.string x.str, .string y.str] V (Gives (.int .i64 (M 2 x y)) V) := by
    intro V hV
    rw [← hV] at hb
    have h : Calls Try.prog 50 #[.string x.str, .string y.str] V (Gives (.int .i64 (M 2 x y)) V) := still_gives (ham.dist_any x.str y.str (Nat.le_trans hx.2.2 (by decide)) (Nat.le_trans hy.2.2 (by decide)) V)
    exact h
  have H := Lib.hid (hV _ rfl)
  clear hV
  generalize M 2 x y = d at H ⊢
  obtain ⟨c0, c1, c2, cf⟩ := cells3 hba
  obtain ⟨d0, d1, d2, df⟩ := cells3 hbb
  have HB := Lib.hid hb
  clear hb hx hy s1 s2 hba hbb
  go_enter Try.func48, Try.ntmps48
  go_wp2_with (fail)
  refine H.out.mono ?_
  rintro e w1 ⟨rfl, hb1⟩
  go_wp2_with (fail)
  go_ret
  exact ⟨rfl, HB.out.trans (hb1.mono HB.out.size)⟩
set_option maxHeartbeats 1600000 in
theorem tellD3 (A A' : Option Addr) (c c' : Nat) (x y : Thing) (hx : Small x) (hy : Small y) (w : World) (s1 : Sl w w.heap.size A (iv x.vec)) (s2 : Sl w w.heap.size A' (iv y.vec)) :
    Calls Try.prog 48 #[.int .i64 3, .agg #[.int .i64 x.tag, .slice A x.vec.length c, .string x.str], .agg #[.int .i64 y.tag, .slice A' y.vec.length c', .string y.str], .func (.func 49) #[] #[], .func (.func 50) #[] #[], .func (.func 51) #[] #[]] w (Gives (.int .i64 (M 3 x y)) w) := by
  obtain ⟨hb, hba, hbb⟩ := two_box w 36 #[.int .i64 x.tag, .slice A x.vec.length c, .string x.str] #[.int .i64 y.tag, .slice A' y.vec.length c', .string y.str]
  have hV : ∀ V, V = (w.alloc (.cells #[.int .i64 x.tag, .slice A x.vec.length c, .string x.str] 36)).alloc (.cells #[.int .i64 y.tag, .slice A' y.vec.length c', .string y.str] 36) → Calls Try.prog 51 #[.string x.str, .string y.str] V (Gives (.int .i64 (M 3 x y)) V) := by
    intro V hV
    rw [← hV] at hb
    have h : Calls Try.prog 51 #[.string x.str, .string y.str] V (Gives (.int .i64 (M 3 x y)) V) := lev.dist_any x.str y.str hx.2.2 hy.2.2 V
    exact h
  have H := Lib.hid (hV _ rfl)
  clear hV
  generalize M 3 x y = d at H ⊢
  obtain ⟨c0, c1, c2, cf⟩ := cells3 hba
  obtain ⟨d0, d1, d2, df⟩ := cells3 hbb
  have HB := Lib.hid hb
  clear hb hx hy s1 s2 hba hbb
  go_enter Try.func48, Try.ntmps48
  go_wp2_with (fail)
  refine H.out.mono ?_
  rintro e w1 ⟨rfl, hb1⟩
  go_wp2_with (fail)
  go_ret
  exact ⟨rfl, HB.out.trans (hb1.mono HB.out.size)⟩
set_option maxHeartbeats 1600000 in
theorem tellD0 (n : Int) (n1 : n ≠ 1) (n2 : n ≠ 2) (n3 : n ≠ 3) (A A' : Option Addr) (c c' : Nat) (x y : Thing) (hx : Small x) (hy : Small y) (w : World) (s1 : Sl w w.heap.size A (iv x.vec)) (s2 : Sl w w.heap.size A' (iv y.vec)) :
    Calls Try.prog 48 #[.int .i64 n, .agg #[.int .i64 x.tag, .slice A x.vec.length c, .string x.str], .agg #[.int .i64 y.tag, .slice A' y.vec.length c', .string y.str], .func (.func 49) #[] #[], .func (.func 50) #[] #[], .func (.func 51) #[] #[]] w (Gives (.int .i64 (M n x y)) w) := by
  obtain ⟨hb, hba, hbb⟩ := two_box w 36 #[.int .i64 x.tag, .slice A x.vec.length c, .string x.str] #[.int .i64 y.tag, .slice A' y.vec.length c', .string y.str]
  have e1 : (n == 1) = false := by simpa using n1
  have e2 : (n == 2) = false := by simpa using n2
  have e3 : (n == 3) = false := by simpa using n3
  rw [M_0 n1 n2 n3]
  obtain ⟨c0, c1, c2, cf⟩ := cells3 hba
  obtain ⟨d0, d1, d2, df⟩ := cells3 hbb
  have HB := Lib.hid hb
  clear hb hx hy s1 s2 hba hbb n1 n2 n3
  go_enter Try.func48, Try.ntmps48
  go_wp2_with (fail)
  go_ret
  exact ⟨rfl, HB.out⟩
theorem tellD (n : Int) (A A' : Option Addr) (c c' : Nat) (x y : Thing) (hx : Small x) (hy : Small y) (w : World) (s1 : Sl w w.heap.size A (iv x.vec)) (s2 : Sl w w.heap.size A' (iv y.vec)) :
    Calls Try.prog 48 #[.int .i64 n, .agg #[.int .i64 x.tag, .slice A x.vec.length c, .string x.str], .agg #[.int .i64 y.tag, .slice A' y.vec.length c', .string y.str], .func (.func 49) #[] #[], .func (.func 50) #[] #[], .func (.func 51) #[] #[]] w (Gives (.int .i64 (M n x y)) w) := by
  refine cases4 (p := fun n => Calls Try.prog 48 #[.int .i64 n, .agg #[.int .i64 x.tag, .slice A x.vec.length c, .string x.str], .agg #[.int .i64 y.tag, .slice A' y.vec.length c', .string y.str], .func (.func 49) #[] #[], .func (.func 50) #[] #[], .func (.func 51) #[] #[]] w (Gives (.int .i64 (M n x y)) w)) ?_ ?_ ?_ ?_ n
  · exact tellD1 A A' c c' x y hx hy w s1 s2
  · exact tellD2 A A' c c' x y hx hy w s1 s2
  · exact tellD3 A A' c c' x y hx hy w s1 s2
  · intro n n1 n2 n3
    exact tellD0 n n1 n2 n3 A A' c c' x y hx hy w s1 s2
set_option maxHeartbeats 800000 in
theorem mdist_any (n : Int) (A A' : Option Addr) (c c' : Nat) (x y : Thing) (hx : Small x) (hy : Small y) (w : World) (s1 : Sl w w.heap.size A (iv x.vec)) (s2 : Sl w w.heap.size A' (iv y.vec)) :
    Calls Try.prog 47 #[.int .i64 n, .agg #[.int .i64 x.tag, .slice A x.vec.length c, .string x.str], .agg #[.int .i64 y.tag, .slice A' y.vec.length c', .string y.str]] w (Gives (.int .i64 (M n x y)) w) := by
  obtain ⟨hb, hba, hbb⟩ := two_box w 36 #[.int .i64 x.tag, .slice A x.vec.length c, .string x.str] #[.int .i64 y.tag, .slice A' y.vec.length c', .string y.str]
  have H := Lib.hid (tellD n A A' c c' x y hx hy _ ((s1.below hb).more hb.size) ((s2.below hb).more hb.size))
  generalize M n x y = d at H ⊢
  obtain ⟨c0, c1, c2, cf⟩ := cells3 hba
  obtain ⟨d0, d1, d2, df⟩ := cells3 hbb
  have HB := Lib.hid hb
  clear hb hx hy s1 s2 hba hbb
  go_enter Try.func47, Try.ntmps47
  go_wp2_with (fail)
  refine H.out.mono ?_
  rintro e w1 ⟨rfl, hb1⟩
  go_wp2_with (fail)
  go_ret
  exact ⟨rfl, HB.out.trans (hb1.mono HB.out.size)⟩
end Go.Proofs.Ytaamlidflfdjkaa.metric
/-
  The contract of metric.Upto; the document's own Dist and Least.
-/
namespace Go.Proofs.Ytaamlidflfdjkaa.metric
open Go.RowKit law bytes nums ord obj
set_option linter.unusedVariables false

/-- what Upto says: how far, if that isn't above a number -/
def ups (d most : Int) : Int := if d ≤ most then d else 0
def upv (d most : Int) : Value := .tuple #[.int .i64 (ups d most), .bool (decide (d ≤ most))]
set_option maxHeartbeats 1600000 in
theorem rdist1 (A A' : Option Addr) (c c' : Nat) (x y : Thing) (hx : Small x) (hy : Small y) (w : World) (s1 : Sl w w.heap.size A (iv x.vec)) (s2 : Sl w w.heap.size A' (iv y.vec)) :
    Calls Try.prog 26 #[.int .i64 1, .agg #[.int .i64 x.tag, .slice A x.vec.length c, .string x.str], .agg #[.int .i64 y.tag, .slice A' y.vec.length c', .string y.str]] w (Gives (.int .i64 (M 1 x y)) w) := by
  obtain ⟨hb, hba, hbb⟩ := two_box w 36 #[.int .i64 x.tag, .slice A x.vec.length c, .string x.str] #[.int .i64 y.tag, .slice A' y.vec.length c', .string y.str]
  have hV : ∀ V, V = (w.alloc (.cells #[.int .i64 x.tag, .slice A x.vec.length c, .string x.str] 36)).alloc (.cells #[.int .i64 y.tag, .slice A' y.vec.length c', .string y.str] 36) → Calls Try.prog 34 #[.slice A x.vec.length c, .slice A' y.vec.length c'] V (Gives (.int .i64 (M 1 x y)) V) := by
    intro V hV
    rw [← hV] at hb
    exact lone.rdist_any A A' c c' x.vec y.vec hx.1 hy.1 hx.2.1 hy.2.1 V ((s1.below hb).more hb.size) ((s2.below hb).more hb.size)
  have H := Lib.hid (hV _ rfl)
  clear hV
  generalize M 1 x y = d at H ⊢
  obtain ⟨c0, c1, c2, cf⟩ := cells3 hba
  obtain ⟨d0, d1, d2, df⟩ := cells3 hbb
  have HB := Lib.hid hb
  clear hb hx hy s1 s2 hba hbb
  go_enter Try.func26, Try.ntmps26
  go_wp2_with (fail)
  refine H.out.mono ?_
  rintro e w1 ⟨rfl, hb1⟩
  go_wp2_with (fail)
  go_ret
  exact ⟨rfl, HB.out.trans (hb1.mono HB.out.size)⟩
set_option maxHeartbeats 1600000 in
theorem rdist2 (A A' : Option Addr) (c c' : Nat) (x y : Thing) (hx : Small x) (hy : Small y) (w : World) (s1 : Sl w w.heap.size A (iv x.vec)) (s2 : Sl w w.heap.size A' (iv y.vec)) :
    Calls Try.prog 26 #[.int .i64 2, .agg #[.int .i64 x.tag, .slice A x.vec.length c, .string x.str], .agg #[.int .i64 y.tag, .slice A' y.vec.length c', .string y.str]] w (Gives (.int .i64 (M 2 x y)) w) := by
  obtain ⟨hb, hba, hbb⟩ := two_box w 36 #[.int .i64 x.tag, .slice A x.vec.length c, .string x.str] #[.int .i64 y.tag, .slice A' y.vec.length c', .string y.str]
  have hV : ∀ V, V = (w.alloc (.cells #[.int .i64 x.tag, .slice A x.vec.length c, .string x.str] 36)).alloc (.cells #[.int .i64 y.tag, .slice A' y.vec.length c', .string y.str] 36) → Calls Try.prog 35 #[.string x.str, .string y.str] V (Gives (.int .i64 (M 2 x y)) V) := by
    intro V hV
    rw [← hV] at hb
    exact still_gives (ham.rdist_any x.str y.str (Nat.le_trans hx.2.2 (by decide)) (Nat.le_trans hy.2.2 (by decide)) V)
  have H := Lib.hid (hV _ rfl)
  clear hV
  generalize M 2 x y = d at H ⊢
  obtain ⟨c0, c1, c2, cf⟩ := cells3 hba
  obtain ⟨d0, d1, d2, df⟩ := cells3 hbb
  have HB := Lib.hid hb
  clear hb hx hy s1 s2 hba hbb
  go_enter Try.func26, Try.ntmps26
  go_wp2_with (fail)
  refine H.out.mono ?_
  rintro e w1 ⟨rfl, hb1⟩
  go_wp2_with (fail)
  go_ret
  exact ⟨rfl, HB.out.trans (hb1.mono HB.out.size)⟩
set_option maxHeartbeats 1600000 in
theorem rdist3 (A A' : Option Addr) (c c' : Nat) (x y : Thing) (hx : Small x) (hy : Small y) (w : World) (s1 : Sl w w.heap.size A (iv x.vec)) (s2 : Sl w w.heap.size A' (iv y.vec)) :
    Calls Try.prog 26 #[.int .i64 3, .agg #[.int .i64 x.tag, .slice A x.vec.length c, .string x.str], .agg #[.int .i64 y.tag, .slice A' y.vec.length c', .string y.str]] w (Gives (.int .i64 (M 3 x y)) w) := by
  obtain ⟨hb, hba, hbb⟩ := two_box w 36 #[.int .i64 x.tag, .slice A x.vec.length c, .string x.str] #[.int .i64 y.tag, .slice A' y.vec.length c', .string y.str]
  have hV : ∀ V, V = (w.alloc (.cells #[.int .i64 x.tag, .slice A x.vec.length c, .string x.str] 36)).alloc (.cells #[.int .i64 y.tag, .slice A' y.vec.length c', .string y.str] 36) → Calls Try.prog 36 #[.string x.str, .string y.str] V (Gives (.int .i64 (M 3 x y)) V) := by
    intro V hV
    rw [← hV] at hb
    exact lev.rdist_any x.str y.str hx.2.2 hy.2.2 V
  have H := Lib.hid (hV _ rfl)
  clear hV
  generalize M 3 x y = d at H ⊢
  obtain ⟨c0, c1, c2, cf⟩ := cells3 hba
  obtain ⟨d0, d1, d2, df⟩ := cells3 hbb
  have HB := Lib.hid hb
  clear hb hx hy s1 s2 hba hbb
  go_enter Try.func26, Try.ntmps26
  go_wp2_with (fail)
  refine H.out.mono ?_
  rintro e w1 ⟨rfl, hb1⟩
  go_wp2_with (fail)
  go_ret
  exact ⟨rfl, HB.out.trans (hb1.mono HB.out.size)⟩
set_option maxHeartbeats 1600000 in
theorem rdist0 (n : Int) (n1 : n ≠ 1) (n2 : n ≠ 2) (n3 : n ≠ 3) (A A' : Option Addr) (c c' : Nat) (x y : Thing) (hx : Small x) (hy : Small y) (w : World) (s1 : Sl w w.heap.size A (iv x.vec)) (s2 : Sl w w.heap.size A' (iv y.vec)) :
    Calls Try.prog 26 #[.int .i64 n, .agg #[.int .i64 x.tag, .slice A x.vec.length c, .string x.str], .agg #[.int .i64 y.tag, .slice A' y.vec.length c', .string y.str]] w (Gives (.int .i64 (M n x y)) w) := by
  obtain ⟨hb, hba, hbb⟩ := two_box w 36 #[.int .i64 x.tag, .slice A x.vec.length c, .string x.str] #[.int .i64 y.tag, .slice A' y.vec.length c', .string y.str]
  have e1 : (n == 1) = false := by simpa using n1
  have e2 : (n == 2) = false := by simpa using n2
  have e3 : (n == 3) = false := by simpa using n3
  rw [M_0 n1 n2 n3]
  obtain ⟨c0, c1, c2, cf⟩ := cells3 hba
  obtain ⟨d0, d1, d2, df⟩ := cells3 hbb
  have HB := Lib.hid hb
  clear hb hx hy s1 s2 hba hbb n1 n2 n3
  go_enter Try.func26, Try.ntmps26
  go_wp2_with (fail)
  go_ret
  exact ⟨rfl, HB.out⟩
theorem rdist_any (n : Int) (A A' : Option Addr) (c c' : Nat) (x y : Thing) (hx : Small x) (hy : Small y) (w : World) (s1 : Sl w w.heap.size A (iv x.vec)) (s2 : Sl w w.heap.size A' (iv y.vec)) :
    Calls Try.prog 26 #[.int .i64 n, .agg #[.int .i64 x.tag, .slice A x.vec.length c, .string x.str], .agg #[.int .i64 y.tag, .slice A' y.vec.length c', .string y.str]] w (Gives (.int .i64 (M n x y)) w) := by
  refine cases4 (p := fun n => Calls Try.prog 26 #[.int .i64 n, .agg #[.int .i64 x.tag, .slice A x.vec.length c, .string x.str], .agg #[.int .i64 y.tag, .slice A' y.vec.length c', .string y.str]] w (Gives (.int .i64 (M n x y)) w)) ?_ ?_ ?_ ?_ n
  · exact rdist1 A A' c c' x y hx hy w s1 s2
  · exact rdist2 A A' c c' x y hx hy w s1 s2
  · exact rdist3 A A' c c' x y hx hy w s1 s2
  · intro n n1 n2 n3
    exact rdist0 n n1 n2 n3 A A' c c' x y hx hy w s1 s2
end Go.Proofs.Ytaamlidflfdjkaa.metric
/-
  The contract of the document's own Least.
-/
namespace Go.Proofs.Ytaamlidflfdjkaa.metric
open Go.RowKit law bytes nums ord obj
set_option linter.unusedVariables false

/-- two things' cells -/
def Two (W : World) (g : Nat) (A A' : Option Addr) (c c' : Nat) (x y : Thing) : Prop := Blk W g 36 #[.int .i64 x.tag, .slice A x.vec.length c, .string x.str] ∧ Blk W (g + 1) 36 #[.int .i64 y.tag, .slice A' y.vec.length c', .string y.str]
theorem Two.below {W W' : World} {g B : Nat} {A A' : Option Addr} {c c' : Nat} {x y : Thing} (h : Two W g A A' c c' x y) (hb : Below B W W') (hg : g + 1 < B) : Two W' g A A' c c' x y := ⟨h.1.below hb (by omega), h.2.below hb hg⟩
theorem wr64 {v : Int} (h1 : -9223372036854775808 ≤ v) (h2 : v ≤ 9223372036854775807) : IntKind.i64.wrap v = v := by simp [IntKind.wrap, IntKind.signed, IntKind.bits]; omega
end Go.Proofs.Ytaamlidflfdjkaa.metric
/-
  The contracts of a meter: New, Dist, Upto, Metric, Calls; of none.
-/
namespace Go.Proofs.Ytaamlidflfdjkaa.metric
open Go.RowKit law bytes nums ord obj
set_option linter.unusedVariables false

/-- a meter of a metric, asked k times, at block g -/
def Mt (w : World) (g : Nat) (n k : Int) : Prop := Blk w g 74 #[.int .i64 n, .int .i64 k]
/-- a value; the meter's block alone has turned: it was asked k times -/
def Asked (g : Nat) (n k : Int) (v : Value) (w : World) (e : Ending) (w' : World) : Prop := e = .returned v ∧ w.grownBy w' (some g) ∧ Mt w' g n k
theorem below_grown {w w' : World} {B : Nat} (h : Below B w w') (hB : w.heap.size ≤ B) (row : Option Nat) : w.grownBy w' row := ⟨h.os, h.tape, h.output, h.size, fun i hi _ => h.block i (Nat.lt_of_lt_of_le hi hB)⟩
/-- numbers of 32 bits lie in no block of other cells -/
theorem Sl.past {w w' : World} {A : Option Addr} {l : List Int} {g : Nat} {t : TypeId} {cs : Array Value} (h : Sl w w.heap.size A (iv l)) (hm : Blk w g t cs) (hc : ∀ (i : Nat) (n : Int), cs[i]? ≠ some (.int .i32 n)) (hg : w.grownBy w' (some g)) : Sl w' w'.heap.size A (iv l) := fun j u hj => by
  obtain ⟨ad, rfl, hb, hcell⟩ := h j u hj
  refine ⟨ad, rfl, Nat.lt_of_lt_of_le hb hg.size, ?_⟩
  have hne : (ad.add j).block ≠ g := fun e => by
    have e2 : w.heap[(ad.add j).block]? = some (.cells cs t (0, 0)) := e ▸ hm
    simp only [World.cell?, e2] at hcell
    split at hcell
    · cases hcell
    · simp only [iv, List.getElem?_map, Option.map_eq_some_iff] at hj
      obtain ⟨n, -, rfl⟩ := hj
      exact hc _ n hcell
  exact (World.cell?_of_block (hg.block (ad.add j).block (by rw [blk_add]; exact hb) (fun e => hne (by injection e)))).trans hcell
theorem Mt.past {w w' : World} {A : Option Addr} {l : List Int} {g : Nat} {n k : Int} (hm : Mt w g n k) (h : Sl w w.heap.size A (iv l)) (hg : w.grownBy w' (some g)) : Sl w' w'.heap.size A (iv l) :=
  Sl.past h hm (fun i m => by match i with | 0 => simp | 1 => simp | i + 2 => simp) hg
theorem Mt.below {w w' : World} {B g : Nat} {n k : Int} (hm : Mt w g n k) (hb : Below B w w') (hg : g < B) : Mt w' g n k := Blk.below hm hb hg
theorem Mt.lt {w : World} {g : Nat} {n k : Int} (hm : Mt w g n k) : g < w.heap.size := Blk.lt hm
theorem Mt.grown {w w' : World} {g : Nat} {n k : Int} {row : Option Nat} (hm : Mt w g n k) (hb : w.grownBy w' row) (hg : some g ≠ row) : Mt w' g n k := Blk.grown hm hb hg
/-- two things and a meter's metric, in memory -/
def Held (W : World) (g b : Nat) (n : Int) (A A' : Option Addr) (c c' : Nat) (x y : Thing) : Prop :=
  W.cell? ⟨g, 0, none⟩ = some (.int .i64 n) ∧ W.cell? ⟨b, 0, none⟩ = some (.int .i64 x.tag) ∧ W.cell? ⟨b, 1, none⟩ = some (.slice A x.vec.length c) ∧ W.cell? ⟨b, 2, none⟩ = some (.string x.str) ∧ W.cell? ⟨b + 1, 0, none⟩ = some (.int .i64 y.tag) ∧ W.cell? ⟨b + 1, 1, none⟩ = some (.slice A' y.vec.length c') ∧ W.cell? ⟨b + 1, 2, none⟩ = some (.string y.str)
theorem held_of {W : World} {g b : Nat} {n k : Int} {A A' : Option Addr} {c c' : Nat} {x y : Thing} (hm : Mt W g n k) (ha : Blk W b 36 #[.int .i64 x.tag, .slice A x.vec.length c, .string x.str]) (hb : Blk W (b + 1) 36 #[.int .i64 y.tag, .slice A' y.vec.length c', .string y.str]) : Held W g b n A A' c c' x y := by
  obtain ⟨c0, c1, c2, cf⟩ := cells3 ha
  obtain ⟨d0, d1, d2, df⟩ := cells3 hb
  exact ⟨Blk.cell hm 0, c0, c1, c2, d0, d1, d2⟩
/-- two things boxed, and a meter's count one more -/
theorem asked_start {w : World} {g : Nat} {n k : Int} (hm : Mt w g n k) {A A' : Option Addr} {c c' : Nat} {x y : Thing} (s1 : Sl w w.heap.size A (iv x.vec)) (s2 : Sl w w.heap.size A' (iv y.vec)) (V : World) (hV : V = ((w.alloc (.cells #[.int .i64 x.tag, .slice A x.vec.length c, .string x.str] 36)).alloc (.cells #[.int .i64 y.tag, .slice A' y.vec.length c', .string y.str] 36)).setCell ⟨g, 1, none⟩ (.int .i64 (k + 1))) :
    w.grownBy V (some g) ∧ Mt V g n (k + 1) ∧ Blk V w.heap.size 36 #[.int .i64 x.tag, .slice A x.vec.length c, .string x.str] ∧ Blk V (w.heap.size + 1) 36 #[.int .i64 y.tag, .slice A' y.vec.length c', .string y.str] ∧ w.heap.size + 1 < V.heap.size ∧ Sl V V.heap.size A (iv x.vec) ∧ Sl V V.heap.size A' (iv y.vec) := by
  obtain ⟨hb, hba, hbb⟩ := two_box w 36 #[.int .i64 x.tag, .slice A x.vec.length c, .string x.str] #[.int .i64 y.tag, .slice A' y.vec.length c', .string y.str]
  have hgw := hm.lt
  have hgr : w.grownBy V (some g) := by
    rw [hV]
    exact only_setCell (only_alloc (only_alloc (only_refl w _) _) _) (.inl rfl) _
  have h1 : Mt V g n (k + 1) := by
    rw [hV]
    exact Blk.set_ (Blk.below hm hb hgw) 1 _
  have h2 : Blk V w.heap.size 36 #[.int .i64 x.tag, .slice A x.vec.length c, .string x.str] := by
    rw [hV]
    exact hba.far (p := ⟨g, 1, none⟩) (by simp; omega) _
  have h3 : Blk V (w.heap.size + 1) 36 #[.int .i64 y.tag, .slice A' y.vec.length c', .string y.str] := by
    rw [hV]
    exact hbb.far (p := ⟨g, 1, none⟩) (by simp; omega) _
  exact ⟨hgr, h1, h2, h3, h3.lt, hm.past s1 hgr, hm.past s2 hgr⟩
set_option maxRecDepth 100000 in
set_option maxHeartbeats 3200000 in
theorem cdist_any {g : Nat} {n k : Int} (A A' : Option Addr) (c c' : Nat) (x y : Thing) (hx : Small x) (hy : Small y) (w : World) (s1 : Sl w w.heap.size A (iv x.vec)) (s2 : Sl w w.heap.size A' (iv y.vec)) (hm : Mt w g n k) (hk : 0 ≤ k ∧ k < 9223372036854775807) :
    Calls Try.prog 46 #[.pointer (some ⟨g, 0, none⟩), .agg #[.int .i64 x.tag, .slice A x.vec.length c, .string x.str], .agg #[.int .i64 y.tag, .slice A' y.vec.length c', .string y.str]] w (Asked g n (k + 1) (.int .i64 (M n x y)) w) := by
  have hst := fun V hV => asked_start (V := V) (c := c) (c' := c') hm s1 s2 hV
  obtain ⟨V, hV⟩ : ∃ V, V = ((w.alloc (.cells #[.int .i64 x.tag, .slice A x.vec.length c, .string x.str] 36)).alloc (.cells #[.int .i64 y.tag, .slice A' y.vec.length c', .string y.str] 36)).setCell ⟨g, 1, none⟩ (.int .i64 (k + 1)) := ⟨_, rfl⟩
  obtain ⟨hgr, hmV, hba, hbb, hlt, t1, t2⟩ := hst V hV
  clear hst
  have hD : ∀ W, Below V.heap.size V W → Calls Try.prog 47 #[.int .i64 n, .agg #[.int .i64 x.tag, .slice A x.vec.length c, .string x.str], .agg #[.int .i64 y.tag, .slice A' y.vec.length c', .string y.str]] W (Gives (.int .i64 (M n x y)) W) := fun W hW => mdist_any n A A' c c' x y hx hy W ((t1.below hW).more hW.size) ((t2.below hW).more hW.size)
  have hS : ∀ W : World, Below V.heap.size V W → Held W g w.heap.size n A A' c c' x y := fun W hW => held_of (hmV.below hW (hmV.lt)) (hba.below hW hba.lt) (hbb.below hW hbb.lt)
  have hend : ∀ W, Below V.heap.size V W → w.grownBy W (some g) ∧ Mt W g n (k + 1) := fun W hW => ⟨only_trans hgr (below_grown hW (Nat.le_refl _) _), hmV.below hW hmV.lt⟩
  have hw : IntKind.i64.wrap (k + 1) = k + 1 := wr64 (by omega) (by omega)
  have hw' : wrap64 (k + 1) = k + 1 := lone.w64 _ (by omega)
  obtain ⟨c0, c1⟩ : w.cell? ⟨g, 0, none⟩ = some (.int .i64 n) ∧ w.cell? ⟨g, 1, none⟩ = some (.int .i64 k) := ⟨Blk.cell hm 0, Blk.cell hm 1⟩
  have cf := Blk.frozen hm
  obtain ⟨hb0, -, -⟩ := two_box w 36 #[.int .i64 x.tag, .slice A x.vec.length c, .string x.str] #[.int .i64 y.tag, .slice A' y.vec.length c', .string y.str]
  have hm2 := Blk.below hm hb0 hm.lt
  have p0 := Blk.cell hm2 0
  have p1 := Blk.cell hm2 1
  have pf := Blk.frozen hm2
  simp only [List.getElem?_toArray] at p0 p1
  generalize M n x y = d at hD ⊢
  have HD := Lib.hid hD
  have HS := Lib.hid hS
  have HE := Lib.hid hend
  clear hD hS hend hgr hmV hba hbb hlt t1 t2 hk s1 s2 hm hm2 hb0 hx hy
  go_enter Try.func46, Try.ntmps46
  go_wp2_with (fail)
  rw [← hV]
  clear hV p0 p1 pf c0 c1 cf hw hw'
  have hB0 : Below V.heap.size V V := Below.refl _ _
  obtain ⟨q0, q1, q2, q3, q4, q5, q6⟩ := HS.out V hB0
  generalize w.heap.size = b at HS q0 q1 q2 q3 q4 q5 q6 ⊢
  go_region_held3 (fun W => W.cell? ⟨g, 0, none⟩ = some (.int .i64 n) ∧ W.cell? ⟨b, 0, none⟩ = some (.int .i64 x.tag) ∧ W.cell? ⟨b, 1, none⟩ = some (.slice A x.vec.length c) ∧ W.cell? ⟨b, 2, none⟩ = some (.string x.str) ∧ W.cell? ⟨b + 1, 0, none⟩ = some (.int .i64 y.tag) ∧ W.cell? ⟨b + 1, 1, none⟩ = some (.slice A' y.vec.length c') ∧ W.cell? ⟨b + 1, 2, none⟩ = some (.string y.str)) ((refine HS.out _ ?_; (first | (with_reducible exact Below.refl _ _) | (with_reducible exact Below.drew (Below.refl _ _)) | (with_reducible assumption))))
    (first
      | (go_at_call 47; (with_reducible refine (obj.on (by first | with_reducible assumption | with_reducible exact Below.drew (Below.refl _ _)) (HD.out _ (by first | with_reducible assumption | with_reducible exact Below.drew (Below.refl _ _)))).mono ?_); rintro e w2 ⟨rfl, hb2⟩))
  all_goals
    go_wp2_with (fail)
    go_ret
    exact ⟨rfl, HE.out _ (by assumption)⟩
/-! ### what it is, and none -/
theorem new_any (n : Int) (w : World) : Calls Try.prog 7 #[.int .i64 n] w fun e w' => e = .returned (.pointer (some ⟨w.heap.size, 0, none⟩)) ∧ Mt w' w.heap.size n 0 ∧ Below w.heap.size w w' := by
  have hb := box_blk w 74 #[.int .i64 n, .int .i64 0]
  have hm : Mt (w.alloc (.cells #[.int .i64 n, .int .i64 0] 74)) w.heap.size n 0 := Blk.new _ _ _
  have HM := Lib.hid hm
  have HB := Lib.hid hb
  clear hm hb
  go_enter Try.func7, Try.ntmps7
  go_wp2_with (fail)
  go_ret
  exact ⟨rfl, HM.out, HB.out⟩
theorem cdist_none (A A' : Option Addr) (c c' : Nat) (x y : Thing) (w : World) : Calls Try.prog 46 #[.pointer none, .agg #[.int .i64 x.tag, .slice A x.vec.length c, .string x.str], .agg #[.int .i64 y.tag, .slice A' y.vec.length c', .string y.str]] w (Gives (.int .i64 0) w) := by
  obtain ⟨hb, -, -⟩ := two_box w 36 #[.int .i64 x.tag, .slice A x.vec.length c, .string x.str] #[.int .i64 y.tag, .slice A' y.vec.length c', .string y.str]
  have HB := Lib.hid hb
  clear hb
  go_enter Try.func46, Try.ntmps46
  go_wp2_with (fail)
  go_ret
  exact ⟨rfl, HB.out⟩
end Go.Proofs.Ytaamlidflfdjkaa.metric
/-
  The contract of the document's Short: are things short enough; what lives (layer 9).
-/
namespace Go.Proofs.Ytaamlidflfdjkaa.metric
open Go.RowKit law bytes nums ord obj
set_option linter.unusedVariables false

/-- a thing where its numbers lie -/
structure At where
  a : Option Addr
  c : Nat
  x : Thing
def oc (p : At) : List Value := [.int .i64 p.x.tag, .slice p.a p.x.vec.length p.c, .string p.x.str]
def ocs (l : List At) : List Value := l.flatMap oc
theorem ocs_at (l : List At) (k j : Nat) (hk : k < l.length) (hj : j < 3) : (ocs l)[k * 3 + j]? = (oc l[k])[j]? := by
  induction l generalizing k with
  | nil => simp at hk
  | cons p r ih =>
    have e : ocs (p :: r) = oc p ++ ocs r := by simp [ocs]
    rw [e]
    cases k with
    | zero => rw [Nat.zero_mul, Nat.zero_add, List.getElem?_append_left (by simpa [oc] using hj)]; rfl
    | succ k =>
      rw [List.getElem?_append_right (by simp [oc]; omega), show (k + 1) * 3 + j - (oc p).length = k * 3 + j from by simp [oc]; omega, ih k (by simpa using hk)]
      rfl
def shortP (m : Int) (x : Thing) : Bool := decide ((x.str.size : Int) ≤ m) && decide ((x.vec.length : Int) ≤ m)
def shortL (m : Int) (l : List At) : Bool := l.all fun p => shortP m p.x
theorem shortP_iff (m : Int) (x : Thing) : shortP m x = true ↔ (x.str.size : Int) ≤ m ∧ (x.vec.length : Int) ≤ m := by simp [shortP]
theorem shortL_take (m : Int) (l : List At) (k : Nat) (hk : k < l.length) (h : shortL m (l.take k) = true) : shortL m (l.take (k + 1)) = shortP m l[k].x := by
  unfold shortL at *
  rw [List.take_succ_eq_append_getElem hk, List.all_append, h]
  simp
theorem shortL_no (m : Int) (l : List At) (k : Nat) (hk : k < l.length) (h : shortP m l[k].x = false) : shortL m l = false := by
  unfold shortL
  rw [List.all_eq_false]
  exact ⟨l[k], List.getElem_mem hk, by simpa using h⟩
/-! ### what lives -/
def liveA : Thing := ⟨2, [], ⟨#[97, 98]⟩⟩
def liveB : Thing := ⟨2, [], ⟨#[97, 99]⟩⟩
end Go.Proofs.Ytaamlidflfdjkaa.metric
/-
  Program-free: things and asks that came in, by their cells: by value, in arrays, in rows.
-/
namespace Go.Proofs.Ytaamlidflfdjkaa.metric
open Go.RowKit law bytes nums ord obj
open Go.ChangeShapes Go.WideShapes Go.Deep Go.ChangeAt
set_option linter.unusedVariables false
section
variable {H : Type} {enc : TypeId × Value → H} {P : Program} {w : World} {base : Nat} {held : Bool}
/-- a thing whose numbers lie in memory, each of 32 bits -/
def Lies (w : World) (p : At) : Prop := Sl w w.heap.size p.a (iv p.x.vec) ∧ Okay p.x
/-- three cells that read as a thing are one -/
theorem cells_obj {fuel : Nat} {t e : TypeId} {f0 f1 f2 : Field} {cs : List Value} {y : DataW H × List MemPlace} (ht : P.underlying t = some (.struct #[f0, f1, f2])) (hone : oneCellFields P #[f0, f1, f2] = true) (hC : P.cellsOf t = 3)
    (k0 : P.underlying f0.type = some (.int .i64)) (k1 : P.underlying f1.type = some (.slice e)) (ke : P.underlying e = some (.int .i32)) (kc : P.cellsOf e = 1) (k2 : P.underlying f2.type = some .string)
    (h : DataW.trod enc P w base (fun _ => true) held fuel t cs = some y) : ∃ p : At, cs = oc p ∧ Lies w p := by
  obtain ⟨xs, n, _, hx, hl, hlen, hg⟩ := DataW.trod_struct ht h
  obtain ⟨o0, q0⟩ := hone_of hone 0 f0 rfl
  obtain ⟨o1, q1⟩ := hone_of hone 1 f1 rfl
  obtain ⟨o2, q2⟩ := hone_of hone 2 f2 rfl
  match cs, hl.trans hC with
  | [c0, c1, c2], _ =>
    match xs, hlen with
    | [y0, y1, y2], _ =>
      have g0 : DataW.trod enc P w base (fun _ => true) held n f0.type [c0] = some y0 := by simpa [o0, q0] using hg 0 f0 rfl
      have g1 : DataW.trod enc P w base (fun _ => true) held n f1.type [c1] = some y1 := by simpa [o1, q1] using hg 1 f1 rfl
      have g2 : DataW.trod enc P w base (fun _ => true) held n f2.type [c2] = some y2 := by simpa [o2, q2] using hg 2 f2 rfl
      obtain ⟨tag, e0, -, w0⟩ := DataW.trod_int k0 g0
      obtain rfl := List.singleton_inj.1 e0
      obtain ⟨A, c, vec, rfl, hc, hs, hb, hd⟩ := open_nums k1 ke kc g1
      obtain ⟨str, e2, z2, w2⟩ := DataW.trod_string k2 g2
      obtain rfl := List.singleton_inj.1 e2
      exact ⟨⟨A, c, ⟨tag, vec, str⟩⟩, rfl, hs, i64_bd' w0, hb⟩
/-- what is asked -/
structure Ask where
  n : Int
  x : At
  y : At
  most : Int
  up : Bool
def ac (q : Ask) : List Value := .int .i64 q.n :: (oc q.x ++ (oc q.y ++ [.int .i64 q.most, .bool q.up]))
theorem ac_len (q : Ask) : (ac q).length = 9 := rfl
theorem cells_ask {fuel : Nat} {t : TypeId} {f0 f1 f2 f3 f4 : Field} {cs : List Value} {y : DataW H × List MemPlace} (ht : P.underlying t = some (.struct #[f0, f1, f2, f3, f4])) (hC : P.cellsOf t = 9)
    (hoff : (f0.offset, f1.offset, f2.offset, f3.offset, f4.offset) = (0, 1, 4, 7, 8)) (hsz : (P.cellsOf f0.type, P.cellsOf f1.type, P.cellsOf f2.type, P.cellsOf f3.type, P.cellsOf f4.type) = (1, 3, 3, 1, 1))
    (k0 : P.underlying f0.type = some (.int .i64)) (k3 : P.underlying f3.type = some (.int .i64)) (k4 : P.underlying f4.type = some .bool)
    (k1 : ∀ (fuel : Nat) (cs : List Value) (y : DataW H × List MemPlace), DataW.trod enc P w base (fun _ => true) held fuel f1.type cs = some y → ∃ p : At, cs = oc p ∧ Lies w p)
    (k2 : ∀ (fuel : Nat) (cs : List Value) (y : DataW H × List MemPlace), DataW.trod enc P w base (fun _ => true) held fuel f2.type cs = some y → ∃ p : At, cs = oc p ∧ Lies w p)
    (h : DataW.trod enc P w base (fun _ => true) held fuel t cs = some y) : ∃ q : Ask, cs = ac q ∧ Lies w q.x ∧ Lies w q.y := by
  obtain ⟨xs, n, _, hx, hl, hlen, hg⟩ := DataW.trod_struct ht h
  simp only [Prod.mk.injEq] at hoff hsz
  obtain ⟨o0, o1, o2, o3, o4⟩ := hoff
  obtain ⟨z0, z1, z2, z3, z4⟩ := hsz
  match cs, hl.trans hC with
  | [c0, c1, c2, c3, c4, c5, c6, c7, c8], _ =>
    match xs, hlen with
    | [y0, y1, y2, y3, y4], _ =>
      have g0 : DataW.trod enc P w base (fun _ => true) held n f0.type [c0] = some y0 := by simpa [o0, z0] using hg 0 f0 rfl
      have g1 : DataW.trod enc P w base (fun _ => true) held n f1.type [c1, c2, c3] = some y1 := by simpa [o1, z1] using hg 1 f1 rfl
      have g2 : DataW.trod enc P w base (fun _ => true) held n f2.type [c4, c5, c6] = some y2 := by simpa [o2, z2] using hg 2 f2 rfl
      have g3 : DataW.trod enc P w base (fun _ => true) held n f3.type [c7] = some y3 := by simpa [o3, z3] using hg 3 f3 rfl
      have g4 : DataW.trod enc P w base (fun _ => true) held n f4.type [c8] = some y4 := by simpa [o4, z4] using hg 4 f4 rfl
      obtain ⟨m, e0, -, -⟩ := DataW.trod_int k0 g0
      obtain rfl := List.singleton_inj.1 e0
      obtain ⟨most, e3, -, -⟩ := DataW.trod_int k3 g3
      obtain rfl := List.singleton_inj.1 e3
      obtain ⟨up, e4, -⟩ := DataW.trod_bool k4 g4
      obtain rfl := List.singleton_inj.1 e4
      obtain ⟨p, e1, h1⟩ := k1 _ _ _ g1
      obtain ⟨q, e2, h2⟩ := k2 _ _ _ g2
      refine ⟨⟨m, p, q, most, up⟩, ?_, h1, h2⟩
      show _ = Value.int .i64 m :: (oc p ++ (oc q ++ [.int .i64 most, .bool up]))
      rw [← e1, ← e2]
      rfl
theorem list_of {α : Type} {R : Nat → α → Prop} {n : Nat} (h : ∀ i, i < n → ∃ q, R i q) : ∃ l : List α, l.length = n ∧ ∀ i, i < n → ∀ hi : i < l.length, R i l[i] := by
  induction n with
  | zero => exact ⟨[], rfl, fun i hi => absurd hi (by omega)⟩
  | succ n ih =>
    obtain ⟨l, hl, hR⟩ := ih (fun i hi => h i (by omega))
    obtain ⟨q, hq⟩ := h n (by omega)
    refine ⟨l ++ [q], by simp [hl], fun i hi hi2 => ?_⟩
    rcases Nat.lt_or_ge i l.length with hlt | hge
    · rw [List.getElem_append_left hlt]; exact hR i (by omega) hlt
    · obtain rfl : i = n := by omega
      rw [List.getElem_append_right hge]
      simpa using hq
/-- a row of what has as many cells each -/
theorem open_row {α : Type} {N : Nat} {r : Reach} {b0 : Nat} {t e : TypeId} {v : Value} {d : DataW H} {p : List MemPlace} {cells : α → List Value} {R : α → Prop} (ht : P.underlying t = some (.slice e)) (hC : P.cellsOf e = N) (hN : 0 < N) (hcl : ∀ a, (cells a).length = N)
    (k : ∀ (fuel : Nat) (cs : List Value) (y : DataW H × List MemPlace), DataW.trod enc P w base (fun _ => true) held fuel e cs = some y → ∃ a, cs = cells a ∧ R a)
    (hv : Value.okWide P w r b0 t v) (h : DataW.Trod enc P w base (fun _ => true) held t v d p) :
    ∃ A c, ∃ l : List α, v = .slice A l.length c ∧ l.length ≤ maxLen ∧ (∀ i (hi : i < l.length), R l[i]) ∧ ∀ i (hi : i < l.length), ∃ ad, A = some ad ∧ ∀ j, j < N → w.cell? (ad.add (i * N + j)) = (cells l[i])[j]? := by
  obtain ⟨A, len, cap, rfl⟩ := okWide_slice ht hv
  obtain ⟨fuel, hf⟩ := h
  rcases open_slice ht hf with ⟨hcs, hx⟩ | ⟨a, len', cap', m, n, D, Pl, hcs, _, hl, hm, hmm, hx, hi⟩
  · simp [Value.cells] at hcs
    obtain ⟨rfl, rfl, rfl⟩ := hcs
    exact ⟨none, 0, [], rfl, Nat.zero_le _, fun i hi => absurd hi (by simp), fun i hi => absurd hi (by simp)⟩
  · simp [Value.cells] at hcs
    obtain ⟨rfl, rfl, rfl⟩ := hcs
    simp only [if_true] at hmm
    have hex : ∀ i, i < len → ∃ q : α, (∀ j, j < N → w.cell? (a.add (i * N + j)) = (cells q)[j]?) ∧ R q := fun i hlt => by
      obtain ⟨cs', hc, hr⟩ := hi i (by omega)
      obtain ⟨q, rfl, hR⟩ := k _ _ _ hr
      rw [hC] at hc
      obtain ⟨-, -, hat⟩ := World.cells?_some hc
      refine ⟨q, fun j hj => ?_, hR⟩
      rw [← Go.Deep.add_add, hat j hj]
    obtain ⟨l, hl2, hR⟩ := list_of hex
    refine ⟨some a, cap, l, by rw [hl2], by omega, fun i hi => (hR i (by omega) hi).2, fun i hi => ⟨a, rfl, (hR i (by omega) hi).1⟩⟩
theorem okWide_arr {n : Nat} {t e : TypeId} {r : Reach} {b0 : Nat} {v : Value} (ht : P.underlying t = some (.array n e)) (h : Value.okWide P w r b0 t v) : ∃ cs, v = .agg cs ∧ cs.size = P.cellsOf t := by
  simp only [Value.okWide, ht] at h
  obtain ⟨cs, h1, h2, _⟩ := h
  exact ⟨cs, h1, h2⟩
/-- three things one behind the other -/
theorem cells_three {fuel : Nat} {t e : TypeId} {cs : List Value} {y : DataW H × List MemPlace} (ht : P.underlying t = some (.array 3 e)) (hC : P.cellsOf t = 9) (hE : P.cellsOf e = 3)
    (k : ∀ (fuel : Nat) (cs : List Value) (y : DataW H × List MemPlace), DataW.trod enc P w base (fun _ => true) held fuel e cs = some y → ∃ p : At, cs = oc p ∧ Lies w p)
    (h : DataW.trod enc P w base (fun _ => true) held fuel t cs = some y) : ∃ p q r : At, cs = oc p ++ (oc q ++ oc r) ∧ Lies w p ∧ Lies w q ∧ Lies w r := by
  obtain ⟨xs, m, _, _, hl, hlen, hg⟩ := DataW.trod_array ht h
  match cs, hl.trans hC with
  | [c0, c1, c2, c3, c4, c5, c6, c7, c8], _ =>
    match xs, hlen with
    | [y0, y1, y2], _ =>
      have g0 : DataW.trod enc P w base (fun _ => true) held m e [c0, c1, c2] = some y0 := by simpa [hE] using hg 0 (by decide)
      have g1 : DataW.trod enc P w base (fun _ => true) held m e [c3, c4, c5] = some y1 := by simpa [hE] using hg 1 (by decide)
      have g2 : DataW.trod enc P w base (fun _ => true) held m e [c6, c7, c8] = some y2 := by simpa [hE] using hg 2 (by decide)
      obtain ⟨p, e0, h0⟩ := k _ _ _ g0
      obtain ⟨q, e1, h1⟩ := k _ _ _ g1
      obtain ⟨r, e2, h2⟩ := k _ _ _ g2
      refine ⟨p, q, r, ?_, h0, h1, h2⟩
      rw [← e0, ← e1, ← e2]
      rfl
end
end Go.Proofs.Ytaamlidflfdjkaa.metric
