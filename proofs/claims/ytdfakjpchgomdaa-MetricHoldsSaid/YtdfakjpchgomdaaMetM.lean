/-
  Program-free: how far things are apart by each metric; that it is a metric.
-/
import Derived.Test.YtdfakjpchgomdaaRTab
import Derived.Test.YtdfakjpchgomdaaRDist
import Derived.Test.YtdfakjpchgomdaaHamL
import Derived.Test.YtdfakjpchgomdaaClone
namespace Go.Proofs.Ytdfakjpchgomdaa.metric
open Go.RowKit law bytes nums ord
set_option linter.unusedVariables false

/-- numbers of 32 bits, not too many; texts not too long -/
def Small (x : Thing) : Prop := dist.Bd x.vec ∧ x.vec.length ≤ 1048576 ∧ x.str.size ≤ 1048576
def M (n : Int) (x y : Thing) : Int :=
  if n = 1 then dist.D x.vec y.vec else if n = 2 then (ham.D x.str y.str : Int) else if n = 3 then (lev.L (lev.bl x.str) (lev.bl y.str) : Int) else 0
def gap (a b : ByteArray) : Int := max ((a.size : Int) - (b.size : Int)) ((b.size : Int) - (a.size : Int))
def Lo (n : Int) (x y : Thing) : Int :=
  if n = 1 then dist.gp (dist.D x.vec []) (dist.D y.vec []) else if n = 2 then gap x.str y.str else if n = 3 then (lev.least (lev.bl x.str) (lev.bl y.str) : Int) else 0
theorem M_1 (x y : Thing) : M 1 x y = dist.D x.vec y.vec := rfl
theorem M_2 (x y : Thing) : M 2 x y = (ham.D x.str y.str : Int) := rfl
theorem M_3 (x y : Thing) : M 3 x y = (lev.L (lev.bl x.str) (lev.bl y.str) : Int) := rfl
theorem M_0 {n : Int} (h1 : n ≠ 1) (h2 : n ≠ 2) (h3 : n ≠ 3) (x y : Thing) : M n x y = 0 := by unfold M; rw [if_neg h1, if_neg h2, if_neg h3]
theorem Lo_1 (x y : Thing) : Lo 1 x y = dist.gp (dist.D x.vec []) (dist.D y.vec []) := rfl
theorem Lo_2 (x y : Thing) : Lo 2 x y = gap x.str y.str := rfl
theorem Lo_3 (x y : Thing) : Lo 3 x y = (lev.least (lev.bl x.str) (lev.bl y.str) : Int) := rfl
theorem Lo_0 {n : Int} (h1 : n ≠ 1) (h2 : n ≠ 2) (h3 : n ≠ 3) (x y : Thing) : Lo n x y = 0 := by unfold Lo; rw [if_neg h1, if_neg h2, if_neg h3]
/-- a metric, told in four ways -/
theorem cases4 {p : Int → Prop} (h1 : p 1) (h2 : p 2) (h3 : p 3) (h0 : ∀ n, n ≠ 1 → n ≠ 2 → n ≠ 3 → p n) (n : Int) : p n := by
  by_cases e1 : n = 1
  · exact e1 ▸ h1
  by_cases e2 : n = 2
  · exact e2 ▸ h2
  by_cases e3 : n = 3
  · exact e3 ▸ h3
  exact h0 n e1 e2 e3
theorem M_nonneg (n : Int) (x y : Thing) : 0 ≤ M n x y := by
  unfold M
  have := dist.D_nonneg x.vec y.vec
  split
  · exact this
  · split
    · omega
    · split <;> omega
theorem M_symm (n : Int) (x y : Thing) : M n x y = M n y x := by
  unfold M
  rw [dist.D_symm x.vec y.vec, ham.D_symm x.str y.str, lev.L_symm (lev.bl x.str)]
theorem M_tri (n : Int) (x y z : Thing) : M n x y ≤ M n x z + M n z y := by
  unfold M
  have h1 := dist.D_tri x.vec y.vec z.vec
  have h2 := ham.D_tri x.str y.str z.str
  have h3 := lev.L_tri (lev.bl x.str) (lev.bl y.str) (lev.bl z.str)
  split
  · exact h1
  · split
    · omega
    · split <;> omega
theorem ham_gap (a b : ByteArray) : gap a b ≤ (ham.D a b : Int) := by
  have h := ham.D_eq a b
  unfold ham.mx ham.lo at h
  unfold gap
  omega
theorem Lo_le (n : Int) (x y : Thing) : Lo n x y ≤ M n x y := by
  unfold M Lo
  have h1 := dist.D_least x.vec y.vec
  have h2 := ham_gap x.str y.str
  have h3 := lev.least_le (lev.bl x.str) (lev.bl y.str)
  split
  · exact h1
  · split
    · exact h2
    · split <;> omega
theorem Lo_nonneg (n : Int) (x y : Thing) : 0 ≤ Lo n x y := by
  unfold Lo
  split
  · unfold dist.gp; omega
  · split
    · unfold gap; omega
    · split <;> omega
/-- things of at most 65536 numbers or bytes -/
theorem M_le {n : Int} {x y : Thing} (hx : dist.Bd x.vec) (hy : dist.Bd y.vec) (h1 : x.vec.length ≤ 65536) (h2 : y.vec.length ≤ 65536) (h3 : x.str.size ≤ 65536) (h4 : y.str.size ≤ 65536) : M n x y ≤ 281474976710656 := by
  unfold M
  split
  · have h := dist.D_le hx hy
    have hm : dist.mx x.vec y.vec ≤ 65536 := by unfold dist.mx; omega
    have : (dist.mx x.vec y.vec : Int) * 4294967295 ≤ 65536 * 4294967295 := by omega
    omega
  · split
    · have h := ham.D_le x.str y.str
      unfold ham.mx at h
      omega
    · split
      · have h := lev.L_max (lev.bl x.str) (lev.bl y.str)
        rw [lev.bl_len, lev.bl_len] at h
        omega
      · omega
theorem M_small {n : Int} {x y : Thing} (hx : Small x) (hy : Small y) : M n x y ≤ 4503599627370496 := by
  unfold M
  split
  · exact dist.D_small hx.1 hy.1 hx.2.1 hy.2.1
  · have h1 := hx.2.2
    have h2 := hy.2.2
    split
    · have h := ham.D_le x.str y.str
      unfold ham.mx at h
      omega
    · split
      · have h := lev.L_max (lev.bl x.str) (lev.bl y.str)
        rw [lev.bl_len, lev.bl_len] at h
        omega
      · omega
/-- of right things the same ones, and no others, are 0 apart -/
theorem M_zero {n s : Int} {x y : Thing} (hx : rightO x n s = true) (hy : rightO y n s = true) : M n x y = 0 ↔ x = y := by
  obtain ⟨tx, vx, sx⟩ := x
  obtain ⟨ty, vy, sy⟩ := y
  unfold rightO at hx hy
  simp only at hx hy
  by_cases hs : s < 0 ∨ 65536 < s
  · rw [if_pos hs] at hx; cases hx
  rw [if_neg hs] at hx hy
  by_cases e1 : n = 1
  · subst e1
    simp only [if_true, Bool.and_eq_true, decide_eq_true_eq] at hx hy
    obtain ⟨⟨rfl, h1⟩, h2⟩ := hx
    obtain ⟨⟨rfl, h3⟩, h4⟩ := hy
    obtain rfl : sx = sy := by rw [ByteArray.size_eq_zero_iff.1 h2, ByteArray.size_eq_zero_iff.1 h4]
    show dist.D vx vy = 0 ↔ _
    rw [dist.D_zero]
    constructor
    · intro h
      have hl : vx.length = vy.length := by omega
      have : vx = vy := List.ext_getElem hl fun j h1 h2 => by
        have := h j (by unfold dist.mx; omega)
        rwa [dist.nm_lt h1, dist.nm_lt h2] at this
      rw [this]
    · intro h
      injection h with _ h _
      subst h
      intros; rfl
  by_cases e2 : n = 2
  · subst e2
    simp only [show ¬ (2 : Int) = 1 from by decide, if_false, if_true, Bool.and_eq_true, decide_eq_true_eq] at hx hy
    obtain ⟨⟨rfl, h1⟩, h2⟩ := hx
    obtain ⟨⟨rfl, h3⟩, h4⟩ := hy
    obtain rfl : vx = vy := by rw [List.eq_nil_of_length_eq_zero h2, List.eq_nil_of_length_eq_zero h4]
    rw [M_2]
    have hz := ham.D_zero sx sy
    constructor
    · intro h
      rw [hz.1 (by simpa using h)]
    · intro h
      injection h with _ _ h
      have := hz.2 h
      simp only
      omega
  by_cases e3 : n = 3
  · subst e3
    simp only [show ¬ (3 : Int) = 1 from by decide, show ¬ (3 : Int) = 2 from by decide, if_false, decide_true, Bool.true_and, Bool.and_eq_true, decide_eq_true_eq] at hx hy
    obtain ⟨⟨rfl, h1⟩, h2⟩ := hx
    obtain ⟨⟨rfl, h3⟩, h4⟩ := hy
    obtain rfl : vx = vy := by rw [List.eq_nil_of_length_eq_zero h2, List.eq_nil_of_length_eq_zero h4]
    rw [M_3]
    have hz := lev.L_zero (lev.bl sx) (lev.bl sy)
    constructor
    · intro h
      rw [lev.bl_ext (hz.1 (by simpa using h))]
    · intro h
      injection h with _ _ h
      subst h
      have := hz.2 rfl
      simp only
      omega
  · simp [e1, e2, e3] at hx
end Go.Proofs.Ytdfakjpchgomdaa.metric
