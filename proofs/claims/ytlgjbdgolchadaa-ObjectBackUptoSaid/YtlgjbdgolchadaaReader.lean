/-
  The contracts of package code's reader.
-/
import Derived.Test.YtlgjbdgolchadaaRNum
import Derived.Shelf.Abstract
namespace Go.Proofs.Ytlgjbdgolchadaa.code
open Go.RowKit law bytes nums
set_option linter.unusedVariables false

def Rd (w : World) (g : Nat) (s : St) : Prop := ∃ A c, Blk w g 70 #[.slice A s.b.length c, .int .i64 s.e] ∧ s.b.length ≤ c ∧ Sl w g A (bv s.b)

theorem rd_mk {w : World} {g : Nat} {E : Int} (h : Blk w g 70 #[.slice none 0 0, .int .i64 E]) : Rd w g ⟨[], E⟩ := ⟨none, 0, h, Nat.le_refl _, Sl.nil⟩
theorem blk_two {w : World} {g : Nat} {t : TypeId} {x y : Value} (h : Blk w g t #[x, y]) (u v : Value) : Blk ((w.setCell ⟨g, 0, none⟩ u).setCell ⟨g, 1, none⟩ v) g t #[u, v] := by
  have := (h.set_ 0 u).set_ 1 v
  simpa using this
/-- the reader alone has turned, and what is new -/
def Read (g : Nat) (s : St) (v : Value) (w : World) (e : Ending) (w' : World) : Prop := e = .returned v ∧ w.grownBy w' (some g) ∧ Rd w' g s
theorem stop_any (g : Nat) (x y : Value) (hx : ∃ A n c, x = .slice A n c) (hy : ∃ i, y = .int .i64 i) (E : Int) (w : World) (hb : Blk w g 70 #[x, y]) :
    Calls Try.prog 57 #[.pointer (some ⟨g, 0, none⟩), .int .i64 E] w (Read g ⟨[], E⟩ (.tuple #[]) w) := by
  obtain ⟨A, n, c, rfl⟩ := hx
  obtain ⟨i, rfl⟩ := hy
  have c0 : w.cell? ⟨g, 0, none⟩ = some (.slice A n c) := hb.cell 0
  have c1 : w.cell? ⟨g, 1, none⟩ = some (.int .i64 i) := hb.cell 1
  have f0 : w.frozen? ⟨g, 0, none⟩ = false := hb.frozen 0
  have f1 : w.frozen? ⟨g, 1, none⟩ = false := hb.frozen 1
  have h3 : Blk ((w.setCell ⟨g, 0, none⟩ (.slice none 0 0)).setCell ⟨g, 1, none⟩ (.int .i64 E)) g 70 #[.slice none 0 0, .int .i64 E] := blk_two hb _ _
  go_enter Try.func57, Try.ntmps57
  go_wp2
  go_end0
  have h2 : w.grownBy ((w.setCell ⟨g, 0, none⟩ (.slice none 0 0)).setCell ⟨g, 1, none⟩ (.int .i64 E)) (some g) := only_setCell (p := ⟨g, 1, none⟩) (only_setCell (p := ⟨g, 0, none⟩) (only_refl w (some g)) (.inl rfl) (.slice none 0 0)) (.inl rfl) (.int .i64 E)
  exact ⟨rfl, h2, rd_mk h3⟩

theorem rd_cut {w : World} {g n c' : Nat} {x : Value} {E : Int} {A' : Option Addr} {R : List UInt8} (hb : Blk w g 70 #[x, .int .i64 E]) (hn : n = R.length) (hc : n ≤ c') (hs : Sl w g A' (bv R)) :
    w.grownBy (w.setCell ⟨g, 0, none⟩ (.slice A' n c')) (some g) ∧ Rd (w.setCell ⟨g, 0, none⟩ (.slice A' n c')) g ⟨R, E⟩ := by
  subst hn
  refine ⟨only_setCell (p := ⟨g, 0, none⟩) (only_refl w (some g)) (.inl rfl) _, A', c', ?_, hc, hs.setCell (p := ⟨g, 0, none⟩) (Nat.le_refl _) _⟩
  have := hb.set_ 0 (.slice A' R.length c')
  simpa using this
set_option maxHeartbeats 600000 in
theorem number_any (g : Nat) (s : St) (K : FuncId) (caps : Array Value) (may : Nat → Bool) (w : World) (hr : Rd w g s) (hl : s.b.length ≤ 281474976710656)
    (hK : Enters Try.prog K) (hmay : ∀ n, U64 n → Calls Try.prog K (#[.int .u64 n] ++ caps) w fun e w' => e = .returned (.bool (may n)) ∧ w = w') :
    Calls Try.prog 52 #[.pointer (some ⟨g, 0, none⟩), .func (.func K) #[] caps] w (Read g (numS s may).2 (.int .u64 (numS s may).1) w) := by
  obtain ⟨A, c, hb, hc, hs⟩ := hr
  have c0 : w.cell? ⟨g, 0, none⟩ = some (.slice A s.b.length c) := hb.cell 0
  have c1 : w.cell? ⟨g, 1, none⟩ = some (.int .i64 s.e) := hb.cell 1
  have f0 : w.frozen? ⟨g, 0, none⟩ = false := hb.frozen 0
  have HF := first_any A s.b c g w hl hc hs
  have HF' : Hid (Calls Try.prog 61 #[.slice A s.b.length c] w (Told s.b w)) := HF
  clear HF
  have HM := Lib.hid hmay
  clear hmay
  have hK' : ∀ (args : Array Value) (w : World), (callFunc K args).run Try.prog w = .ok (.enter K args) w := hK
  by_cases he : s.e = 0
  · have d1 : (s.e == 0) = true := by simpa using he
    have d2 : (s.e != 0) = false := by simpa using he
    by_cases h1 : (first s.b).2.2 = 0
    · have d3 : ((first s.b).2.2 == 0) = true := by simpa using h1
      go_enter Try.func52, Try.ntmps52
      go_wp2_with (go_at_call 61; (with_reducible refine HF'.out.mono ?_); rintro e w' ⟨rfl, rfl⟩)
      have hfo := first_ok h1
      refine (HM.out _ hfo.1).mono ?_
      rintro e w' ⟨rfl, rfl⟩
      by_cases hm : may (first s.b).1 = true
      · rw [hm]
        have hns : numS s may = ((first s.b).1, ⟨s.b.drop (first s.b).2.1, 0⟩) := by unfold numS; rw [if_pos he, if_pos h1, if_pos hm]
        have HN := Lib.hid hns
        have hsl := hs.drop (first s.b).2.1
        have hfl := hfo.2.2.1
        have hdl : (s.b.drop (first s.b).2.1).length = s.b.length - (first s.b).2.1 := List.length_drop
        have HDL := Lib.hid hdl
        clear hns hdl hm
        by_cases hck : c = (first s.b).2.1
        · have hbk : decide (c = (first s.b).2.1) = true := decide_eq_true hck
          go_wp2
          go_ret
          rw [HN.out]
          have hz : s.b.drop (first s.b).2.1 = [] := List.drop_eq_nil_of_le (by omega)
          rw [hz]
          rw [he] at hb
          exact ⟨rfl, rd_cut hb (by simp; omega) (by omega) Sl.nil⟩
        · have hbk : decide (c = (first s.b).2.1) = false := decide_eq_false hck
          go_wp2
          go_ret
          rw [HN.out]
          rw [he] at hb
          exact ⟨rfl, rd_cut hb HDL.out.symm (by omega) (by rw [bv_drop]; exact hsl)⟩
      · have hm' : may (first s.b).1 = false := by simpa using hm
        rw [hm']
        have hns : numS s may = (0, ⟨[], 14⟩) := by unfold numS; rw [if_pos he, if_pos h1, if_neg hm]
        have HN := Lib.hid hns
        clear hns hm hm'
        go_wp2_with (go_at_call 57; (with_reducible refine (stop_any g _ _ ⟨_, _, _, rfl⟩ ⟨_, rfl⟩ 14 _ hb).mono ?_); rintro e w' ⟨rfl, hg1, hr1⟩)
        go_ret
        rw [HN.out]
        exact ⟨rfl, hg1, hr1⟩
    · have d3 : ((first s.b).2.2 == 0) = false := by simpa using h1
      have d4 : ((first s.b).2.2 != 0) = true := by simpa using h1
      have hns : numS s may = (0, ⟨[], (first s.b).2.2⟩) := by unfold numS; rw [if_pos he, if_neg h1]
      have HN := Lib.hid hns
      clear hns
      go_enter Try.func52, Try.ntmps52
      go_wp2_with (first
        | (go_at_call 61; (with_reducible refine HF'.out.mono ?_); rintro e w' ⟨rfl, rfl⟩)
        | (go_at_call 57; (with_reducible refine (stop_any g _ _ ⟨_, _, _, rfl⟩ ⟨_, rfl⟩ _ _ hb).mono ?_); rintro e w' ⟨rfl, hg1, hr1⟩))
      go_ret
      rw [HN.out]
      exact ⟨rfl, hg1, hr1⟩
  · have d1 : (s.e == 0) = false := by simpa using he
    have d2 : (s.e != 0) = true := by simpa using he
    have hns : numS s may = (0, s) := by unfold numS; rw [if_neg he]
    have HN := Lib.hid hns
    clear hns
    go_enter Try.func52, Try.ntmps52
    go_wp2
    go_ret
    rw [HN.out]
    exact ⟨rfl, only_refl _ _, A, c, hb, hc, hs⟩
end Go.Proofs.Ytlgjbdgolchadaa.code
