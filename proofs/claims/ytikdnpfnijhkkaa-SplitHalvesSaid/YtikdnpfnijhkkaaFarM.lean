/-
  The contract of split.middle: at rows of at most five; at longer ones, as soon as Nth does as told at shorter rows.
-/
import Derived.Test.YtikdnpfnijhkkaaFarR
import Derived.Test.YtikdnpfnijhkkaaFarK
import Derived.Test.YtikdnpfnijhkkaaFarS
import Derived.Lib.MinMax
namespace Go.Proofs.Ytikdnpfnijhkkaa.far
open Go.RowKit law bytes only flat hit spl Go.Sort Go.Shelf
set_option linter.unusedVariables false

/-- one of a row -/
def Mid (l : List Hit) (w : World) (e : Ending) (w' : World) : Prop := ∃ x ∈ l, e = .returned (.agg #[.int .i64 x.1, .int .i64 x.2]) ∧ Below w.heap.size w w'
def MidC (l : List Hit) : Prop := ∀ (A : Option Addr) (c B : Nat) (w : World), l.length * 16 ≤ 70368744177664 → B ≤ w.heap.size → l.length ≤ c → Sl w B A (fv l) → Calls Try.prog 14 #[.slice A l.length c] w (Mid l w)
def NthC (l : List Hit) : Prop := ∀ (A : Option Addr) (c B : Nat) (k : Int) (w : World), l.length * 16 ≤ 70368744177664 → B ≤ w.heap.size → l.length ≤ c → Sl w B A (fv l) → Calls Try.prog 7 #[.slice A l.length c, .int .i64 k] w (Got (nth l k) w)
set_option maxRecDepth 100000 in
set_option maxHeartbeats 3200000 in
theorem mid_small (l : List Hit) (h0 : 0 < l.length) (h5 : l.length ≤ 5) : MidC l := by
  intro A c B w hm hB hc hs
  obtain ⟨W0, hW0⟩ : ∃ W, W = w.alloc (.cells #[.int .i64 0, .int .i64 0] 26) := ⟨_, rfl⟩
  have hz0 : W0.heap.size = w.heap.size + 1 := by rw [hW0]; simp
  have hb0 : Below w.heap.size w W0 := by rw [hW0]; exact (Below.refl _ w).alloc (Nat.le_refl _) _
  have hbx : Blk W0 w.heap.size 26 #[.int .i64 0, .int .i64 0] := by rw [hW0]; exact Blk.new w _ _
  have HC := Lib.hid (clone_any A l c B W0 (by omega) (by omega) (hs.below (hb0.mono hB)))
  have HN : Hid (∀ W, Below W0.heap.size W0 W → Blk W w.heap.size 26 #[.int .i64 0, .int .i64 0] ∧ Below w.heap.size w W) := Lib.hid fun W hW =>
    ⟨hbx.below hW (by omega), hb0.trans (hW.mono (by omega))⟩
  obtain ⟨k, hk⟩ : ∃ k, k = l.length / 2 := ⟨_, rfl⟩
  have hkl : k < (sortH l).length := by rw [sortH_length]; omega
  have hkn : k < l.length := by omega
  obtain ⟨⟨x, y⟩, hx⟩ : ∃ x, (sortH l)[k] = x := ⟨_, rfl⟩
  have HX : Hid ((x, y) ∈ l) := Lib.hid (by rw [← hx]; exact (sortH_perm l).subset (List.getElem_mem hkl))
  have HAT : Hid (∀ (A1 : Option Addr) (W : World), Sl W W.heap.size A1 (fv (sortH l)) → ∃ b o, A1 = some ⟨b, o, none⟩ ∧ W.cell? ⟨b, o + l.length / 2 * 2, none⟩ = some (.int .i64 x) ∧ W.cell? ⟨b, o + l.length / 2 * 2 + 1, none⟩ = some (.int .i64 y)) := Lib.hid fun A1 W hW => by
    rw [← hk]
    obtain ⟨b, o, e, _, h0, h1⟩ := Sl.farAt hW hkl
    rw [hx] at h0 h1
    exact ⟨b, o, e, h0, h1⟩
  have HS : Hid (∀ (A1 : Option Addr) (c1 : Nat) (W1 : World), W1.ownsRow W0.heap.size 26 2 (.slice A1 l.length c1) l.length (fv l) → Below W0.heap.size W0 W1 → Calls Try.prog 19 #[.slice A1 l.length c1, .func (.func 18) #[] #[]] W1 fun e w' => e = .returned (.tuple #[]) ∧ Sl w' w'.heap.size A1 (fv (sortH l)) ∧ Below W0.heap.size W0 w') := Lib.hid fun A1 c1 W1 ho hb =>
    (sortFunc_any A1 l c1 _ W1 (by omega) ho).mono fun e w' ⟨he, hsl, hbl⟩ => ⟨he, hsl, hbl _ _ hb (Nat.le_refl _) hb.size⟩
  have d5 : decide ((l.length : Int) ≤ 5) = true := decide_eq_true (by omega)
  have d6 : ((l.length : Int) ≤ 5) := by omega
  have i1 : (l.length : Int) / 2 < (l.length : Int) := by omega
  have i2 : l.length / 2 < l.length := by omega
  clear hs hz0 hb0 hbx hk hkl hx hkn
  go_enter Try.func14, Try.ntmps14
  go_wp2_with (fail)
  rw [← hW0]
  clear hW0
  refine HC.out.mono ?_
  rintro e w1 ⟨A1, c1, rfl, ho, hb1⟩
  have HSS := Lib.hid (HS.out A1 c1 w1 ho hb1)
  clear HC HS ho hb1
  go_wp2_with (fail)
  refine HSS.out.mono ?_
  rintro e w2 ⟨rfl, hsl, hb2⟩
  obtain ⟨b, o, rfl, hc0, hc1⟩ := HAT.out A1 w2 hsl
  obtain ⟨hbk, hbw⟩ := HN.out w2 hb2
  have e0 := hbk.cell 0
  have e1 := hbk.cell 1
  have g0 := hbk.frozen 0
  have g1 := hbk.frozen 1
  have HB := Lib.hid hbw
  clear hsl hb2 hbw HN HSS HAT
  go_wp2_with (fail)
  obtain ⟨p0, p1⟩ := put_two hbk (.int .i64 x) (.int .i64 y)
  refine bodyPost_ret (v := .agg #[.int .i64 x, .int .i64 y]) (by simp [results, Try.results14, go_sem, p0, p1]) rfl ?_
  exact ⟨(x, y), HX.out, rfl, (HB.out.setCell (Nat.le_refl _) _).setCell (Nat.le_refl _) _⟩
end Go.Proofs.Ytikdnpfnijhkkaa.far
