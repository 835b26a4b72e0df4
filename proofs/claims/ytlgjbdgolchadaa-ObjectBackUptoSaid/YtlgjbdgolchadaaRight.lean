/-
  The contracts of object.Right and the document's own, Tag, Same, Clone's parts; what lives.
-/
import Derived.Test.YtlgjbdgolchadaaThing
import Derived.Test.YtlgjbdgolchadaaQuiet
import Derived.Lib.Hide
import Derived.Deep.QuietTactic
import Derived.BigQuiet
import Derived.WalkSpells
namespace Go.Proofs.Ytlgjbdgolchadaa.obj
open Go.RowKit law bytes nums ord
set_option linter.unusedVariables false

/-- a value, and nothing that there was has turned -/
def Gives (v : Value) (w : World) (e : Ending) (w' : World) : Prop := e = .returned v ∧ Below w.heap.size w w'
theorem cells3 {w : World} {b t : Nat} {x0 x1 x2 : Value} (h : Blk w b t #[x0, x1, x2]) : w.cell? ⟨b, 0, none⟩ = some x0 ∧ w.cell? ⟨b, 1, none⟩ = some x1 ∧ w.cell? ⟨b, 2, none⟩ = some x2 ∧ (∀ i, w.frozen? ⟨b, i, none⟩ = false) := ⟨h.cell 0, h.cell 1, h.cell 2, h.frozen⟩
theorem tag_any (m : Int) (w : World) : Calls Try.prog 9 #[.int .i64 m] w fun e w' => e = .returned (.int .i64 (tagOf m)) ∧ w = w' := by
  by_cases h1 : m = 1
  · subst h1
    go_enter Try.func9, Try.ntmps9
    go_wp2
    go_ret
    exact ⟨rfl, rfl⟩
  by_cases h2 : m = 2
  · subst h2
    go_enter Try.func9, Try.ntmps9
    go_wp2
    go_ret
    exact ⟨rfl, rfl⟩
  by_cases h3 : m = 3
  · subst h3
    go_enter Try.func9, Try.ntmps9
    go_wp2
    go_ret
    exact ⟨rfl, rfl⟩
  have e1 : (m == 1) = false := by simpa using h1
  have e2 : (m == 2) = false := by simpa using h2
  have e3 : (m == 3) = false := by simpa using h3
  have hT : tagOf m = 0 := by unfold tagOf; rw [if_neg h1, if_neg h2, if_neg h3]
  have HT := Lib.hid hT
  clear hT h1 h2 h3
  go_enter Try.func9, Try.ntmps9
  go_wp2
  go_ret
  exact ⟨by rw [HT.out]; rfl, rfl⟩

theorem box_blk (w : World) (t : Nat) (cs : Array Value) : Below w.heap.size w (w.alloc (.cells cs t)) := (Below.refl _ w).alloc (Nat.le_refl _) _
set_option maxHeartbeats 800000 in
theorem length_any (A : Option Addr) (c : Nat) (x : Thing) (w : World) :
    Calls Try.prog 28 #[.agg #[.int .i64 x.tag, .slice A x.vec.length c, .string x.str]] w (Gives (.tuple #[.int .i64 (lenO x).1, .bool (lenO x).2]) w) := by
  have hT : lenO x = if x.tag = 2 then (if x.vec.length = 0 then ((x.str.size : Int), true) else (0, false)) else if x.tag = 1 then (if x.str.size = 0 then ((x.vec.length : Int), true) else (0, false)) else (0, false) := rfl
  obtain ⟨tag, vec, str⟩ := x
  simp only at hT ⊢
  generalize lenO ⟨tag, vec, str⟩ = R at hT ⊢
  generalize vec.length = n at hT ⊢
  generalize hm : str.size = m at hT ⊢
  by_cases h2 : tag = 2
  · subst h2
    rw [if_pos rfl] at hT
    by_cases hn : n = 0
    · subst hn
      rw [if_pos rfl] at hT
      subst hT
      go_enter Try.func28, Try.ntmps28
      go_wp2
      go_quiet (fail)
      go_wp2
      go_ret2
      exact ⟨rfl, below_drewN (box_blk _ _ _) _⟩
    · rw [if_neg hn] at hT
      subst hT
      have d : ((n : Int) == 0) = false := by simp; omega
      go_enter Try.func28, Try.ntmps28
      go_wp2
      go_quiet (fail)
      go_wp2
      go_ret2
      exact ⟨rfl, below_drewN (box_blk _ _ _) _⟩
  rw [if_neg h2] at hT
  have e2 : (tag == 2) = false := by simpa using h2
  by_cases h1 : tag = 1
  · subst h1
    rw [if_pos rfl] at hT
    by_cases hn : m = 0
    · subst hn
      rw [if_pos rfl] at hT
      subst hT
      go_enter Try.func28, Try.ntmps28
      go_wp2
      go_quiet (fail)
      go_wp2
      go_ret2
      exact ⟨rfl, below_drewN (box_blk _ _ _) _⟩
    · rw [if_neg hn] at hT
      subst hT
      have d : ((m : Int) == 0) = false := by simp; omega
      go_enter Try.func28, Try.ntmps28
      go_wp2
      go_quiet (fail)
      go_wp2
      go_ret2
      exact ⟨rfl, below_drewN (box_blk _ _ _) _⟩
  rw [if_neg h1] at hT
  have e1 : (tag == 1) = false := by simpa using h1
  subst hT
  clear h1 h2
  go_enter Try.func28, Try.ntmps28
  go_wp2
  go_quiet (fail)
  go_wp2
  go_ret2
  exact ⟨rfl, below_drewN (box_blk _ _ _) _⟩

def U64' (n : Nat) : Prop := n < 18446744073709551616
/-- the tests of object.Right: not of a length, another tag, a size that may not be -/
theorem right_len (x : Thing) (m s : Int) : rightO x m s = if (lenO x).2 = false ∨ x.tag ≠ tagOf m ∨ s < 0 ∨ 65536 < s then false else decide ((lenO x).1 = s ∨ (m = 3 ∧ (lenO x).1 < s)) := by
  unfold rightO lenO tagOf
  have hv : (0 : Int) ≤ (x.vec.length : Int) := by omega
  by_cases hs : s < 0 ∨ 65536 < s
  · rw [if_pos hs, if_pos (by rcases hs with h | h <;> simp [h])]
  rw [if_neg hs]
  have hs1 : ¬ s < 0 := fun h => hs (.inl h)
  have hs2 : ¬ 65536 < s := fun h => hs (.inr h)
  by_cases h1 : m = 1
  · subst h1
    by_cases t2 : x.tag = 2
    · simp [t2, hs1, hs2]
    · by_cases t1 : x.tag = 1
      · by_cases h0 : x.str.size = 0 <;> simp [t1, h0, hs1, hs2]
      · simp [t1, t2]
  by_cases h2 : m = 2
  · subst h2
    by_cases t2 : x.tag = 2
    · by_cases h0 : x.vec.length = 0 <;> simp [t2, h0, hs1, hs2]
      all_goals simp_all
    · simp [t2]
  by_cases h3 : m = 3
  · subst h3
    by_cases t2 : x.tag = 2
    · by_cases h0 : x.vec.length = 0 <;> simp [t2, h0, hs1, hs2]
      all_goals (first | omega | (rw [Bool.eq_iff_iff]; simp; omega) | simp_all)
    · simp [t2]
  · simp only [h1, h2, h3, if_false]
    by_cases t2 : x.tag = 2
    · simp [t2]
    · by_cases t1 : x.tag = 1
      · simp [t1]
      · simp [t1, t2]

set_option maxHeartbeats 800000 in
theorem right_any (A : Option Addr) (c : Nat) (x : Thing) (m s : Int) (w : World) :
    Calls Try.prog 7 #[.agg #[.int .i64 x.tag, .slice A x.vec.length c, .string x.str], .int .i64 m, .int .i64 s] w (Gives (.bool (rightO x m s)) w) := by
  have hR := right_len x m s
  obtain ⟨n, is, hL⟩ : ∃ n is, lenO x = (n, is) := ⟨_, _, rfl⟩
  rw [hL] at hR
  have HL := Lib.hid hL
  clear hL
  simp only at hR
  cases is
  · rw [if_pos (.inl rfl)] at hR
    have HR := Lib.hid hR
    clear hR
    go_enter Try.func7, Try.ntmps7
    go_wp2_with (fail)
    refine (length_any A c x _).mono ?_
    rintro e w1 ⟨rfl, hb1⟩
    have hbm := (box_blk w 24 #[.int .i64 x.tag, .slice A x.vec.length c, .string x.str]).trans (hb1.mono (box_blk w 24 #[.int .i64 x.tag, .slice A x.vec.length c, .string x.str]).size)
    have hc0 : w1.cell? ⟨w.heap.size, 0, none⟩ = some (.int .i64 x.tag) := ((Blk.new w 24 #[.int .i64 x.tag, .slice A x.vec.length c, .string x.str]).below hb1 (Blk.new w 24 #[.int .i64 x.tag, .slice A x.vec.length c, .string x.str]).lt).cell 0
    rw [HL.out]
    go_wp2_with (fail)
    go_quiet ((go_at_call 9; exact quiet0 (tag_any _ _)))
    go_wp2
    go_ret
    rw [HR.out]
    exact ⟨rfl, below_drewN hbm _⟩
  by_cases ht : x.tag = tagOf m
  case neg =>
    rw [if_pos (.inr (.inl ht))] at hR
    have HR := Lib.hid hR
    clear hR
    have d1 : (x.tag == tagOf m) = false := by simpa using ht
    have d2 : (x.tag != tagOf m) = true := by simpa using ht
    clear ht
    go_enter Try.func7, Try.ntmps7
    go_wp2_with (fail)
    refine (length_any A c x _).mono ?_
    rintro e w1 ⟨rfl, hb1⟩
    have hbm := (box_blk w 24 #[.int .i64 x.tag, .slice A x.vec.length c, .string x.str]).trans (hb1.mono (box_blk w 24 #[.int .i64 x.tag, .slice A x.vec.length c, .string x.str]).size)
    have hc0 : w1.cell? ⟨w.heap.size, 0, none⟩ = some (.int .i64 x.tag) := ((Blk.new w 24 #[.int .i64 x.tag, .slice A x.vec.length c, .string x.str]).below hb1 (Blk.new w 24 #[.int .i64 x.tag, .slice A x.vec.length c, .string x.str]).lt).cell 0
    rw [HL.out]
    go_wp2_with (fail)
    go_quiet ((go_at_call 9; exact quiet0 (tag_any _ _)))
    go_wp2
    go_ret
    rw [HR.out]
    exact ⟨rfl, below_drewN hbm _⟩
  have d1 : (x.tag == tagOf m) = true := by simpa using ht
  have d2 : (x.tag != tagOf m) = false := by simpa using ht
  by_cases h0 : s < 0
  · rw [if_pos (.inr (.inr (.inl h0)))] at hR
    have HR := Lib.hid hR
    have d3 : decide (s < 0) = true := decide_eq_true h0
    clear hR h0 ht
    go_enter Try.func7, Try.ntmps7
    go_wp2_with (fail)
    refine (length_any A c x _).mono ?_
    rintro e w1 ⟨rfl, hb1⟩
    have hbm := (box_blk w 24 #[.int .i64 x.tag, .slice A x.vec.length c, .string x.str]).trans (hb1.mono (box_blk w 24 #[.int .i64 x.tag, .slice A x.vec.length c, .string x.str]).size)
    have hc0 : w1.cell? ⟨w.heap.size, 0, none⟩ = some (.int .i64 x.tag) := ((Blk.new w 24 #[.int .i64 x.tag, .slice A x.vec.length c, .string x.str]).below hb1 (Blk.new w 24 #[.int .i64 x.tag, .slice A x.vec.length c, .string x.str]).lt).cell 0
    rw [HL.out]
    go_wp2_with (fail)
    go_quiet ((go_at_call 9; exact quiet0 (tag_any _ _)))
    go_wp2
    go_ret
    rw [HR.out]
    exact ⟨rfl, below_drewN hbm _⟩
  have d3 : decide (s < 0) = false := decide_eq_false h0
  by_cases h6 : 65536 < s
  · rw [if_pos (.inr (.inr (.inr h6)))] at hR
    have HR := Lib.hid hR
    have d4 : decide (65536 < s) = true := decide_eq_true h6
    clear hR h0 h6 ht
    go_enter Try.func7, Try.ntmps7
    go_wp2_with (fail)
    refine (length_any A c x _).mono ?_
    rintro e w1 ⟨rfl, hb1⟩
    have hbm := (box_blk w 24 #[.int .i64 x.tag, .slice A x.vec.length c, .string x.str]).trans (hb1.mono (box_blk w 24 #[.int .i64 x.tag, .slice A x.vec.length c, .string x.str]).size)
    have hc0 : w1.cell? ⟨w.heap.size, 0, none⟩ = some (.int .i64 x.tag) := ((Blk.new w 24 #[.int .i64 x.tag, .slice A x.vec.length c, .string x.str]).below hb1 (Blk.new w 24 #[.int .i64 x.tag, .slice A x.vec.length c, .string x.str]).lt).cell 0
    rw [HL.out]
    go_wp2_with (fail)
    go_quiet ((go_at_call 9; exact quiet0 (tag_any _ _)))
    go_wp2
    go_ret
    rw [HR.out]
    exact ⟨rfl, below_drewN hbm _⟩
  have d4 : decide (65536 < s) = false := decide_eq_false h6
  rw [if_neg (by simp [ht, h0]; omega)] at hR
  clear h0 h6 ht
  by_cases h1 : n = s
  · rw [decide_eq_true (.inl h1)] at hR
    have HR := Lib.hid hR
    have d5 : (n == s) = true := by simpa using h1
    clear hR h1
    go_enter Try.func7, Try.ntmps7
    go_wp2_with (fail)
    refine (length_any A c x _).mono ?_
    rintro e w1 ⟨rfl, hb1⟩
    have hbm := (box_blk w 24 #[.int .i64 x.tag, .slice A x.vec.length c, .string x.str]).trans (hb1.mono (box_blk w 24 #[.int .i64 x.tag, .slice A x.vec.length c, .string x.str]).size)
    have hc0 : w1.cell? ⟨w.heap.size, 0, none⟩ = some (.int .i64 x.tag) := ((Blk.new w 24 #[.int .i64 x.tag, .slice A x.vec.length c, .string x.str]).below hb1 (Blk.new w 24 #[.int .i64 x.tag, .slice A x.vec.length c, .string x.str]).lt).cell 0
    rw [HL.out]
    go_wp2_with (fail)
    go_quiet ((go_at_call 9; exact quiet0 (tag_any _ _)))
    go_wp2
    go_ret
    rw [HR.out]
    exact ⟨rfl, below_drewN hbm _⟩
  have d5 : (n == s) = false := by simpa using h1
  by_cases h3 : m = 3
  · subst h3
    by_cases hl : n < s
    · rw [decide_eq_true (.inr ⟨rfl, hl⟩)] at hR
      have HR := Lib.hid hR
      have d6 : decide (n < s) = true := decide_eq_true hl
      clear hR h1 hl
      go_enter Try.func7, Try.ntmps7
      go_wp2_with (fail)
      refine (length_any A c x _).mono ?_
      rintro e w1 ⟨rfl, hb1⟩
      have hbm := (box_blk w 24 #[.int .i64 x.tag, .slice A x.vec.length c, .string x.str]).trans (hb1.mono (box_blk w 24 #[.int .i64 x.tag, .slice A x.vec.length c, .string x.str]).size)
      have hc0 : w1.cell? ⟨w.heap.size, 0, none⟩ = some (.int .i64 x.tag) := ((Blk.new w 24 #[.int .i64 x.tag, .slice A x.vec.length c, .string x.str]).below hb1 (Blk.new w 24 #[.int .i64 x.tag, .slice A x.vec.length c, .string x.str]).lt).cell 0
      rw [HL.out]
      go_wp2_with (fail)
      go_quiet ((go_at_call 9; exact quiet0 (tag_any _ _)))
      go_wp2
      go_ret
      rw [HR.out]
      exact ⟨rfl, below_drewN hbm _⟩
    · rw [decide_eq_false (by omega)] at hR
      have HR := Lib.hid hR
      have d6 : decide (n < s) = false := decide_eq_false hl
      clear hR h1 hl
      go_enter Try.func7, Try.ntmps7
      go_wp2_with (fail)
      refine (length_any A c x _).mono ?_
      rintro e w1 ⟨rfl, hb1⟩
      have hbm := (box_blk w 24 #[.int .i64 x.tag, .slice A x.vec.length c, .string x.str]).trans (hb1.mono (box_blk w 24 #[.int .i64 x.tag, .slice A x.vec.length c, .string x.str]).size)
      have hc0 : w1.cell? ⟨w.heap.size, 0, none⟩ = some (.int .i64 x.tag) := ((Blk.new w 24 #[.int .i64 x.tag, .slice A x.vec.length c, .string x.str]).below hb1 (Blk.new w 24 #[.int .i64 x.tag, .slice A x.vec.length c, .string x.str]).lt).cell 0
      rw [HL.out]
      go_wp2_with (fail)
      go_quiet ((go_at_call 9; exact quiet0 (tag_any _ _)))
      go_wp2
      go_ret
      rw [HR.out]
      exact ⟨rfl, below_drewN hbm _⟩
  · rw [decide_eq_false (by omega)] at hR
    have HR := Lib.hid hR
    have d6 : (m == 3) = false := by simpa using h3
    clear hR h1 h3
    go_enter Try.func7, Try.ntmps7
    go_wp2_with (fail)
    refine (length_any A c x _).mono ?_
    rintro e w1 ⟨rfl, hb1⟩
    have hbm := (box_blk w 24 #[.int .i64 x.tag, .slice A x.vec.length c, .string x.str]).trans (hb1.mono (box_blk w 24 #[.int .i64 x.tag, .slice A x.vec.length c, .string x.str]).size)
    have hc0 : w1.cell? ⟨w.heap.size, 0, none⟩ = some (.int .i64 x.tag) := ((Blk.new w 24 #[.int .i64 x.tag, .slice A x.vec.length c, .string x.str]).below hb1 (Blk.new w 24 #[.int .i64 x.tag, .slice A x.vec.length c, .string x.str]).lt).cell 0
    rw [HL.out]
    go_wp2_with (fail)
    go_quiet ((go_at_call 9; exact quiet0 (tag_any _ _)))
    go_wp2
    go_ret
    rw [HR.out]
    exact ⟨rfl, below_drewN hbm _⟩

set_option maxHeartbeats 800000 in
theorem rright_any (A : Option Addr) (c : Nat) (x : Thing) (m s : Int) (w : World) :
    Calls Try.prog 8 #[.agg #[.int .i64 x.tag, .slice A x.vec.length c, .string x.str], .int .i64 m, .int .i64 s] w (Gives (.bool (rightO x m s)) w) := by
  have hR : rightO x m s = (if s < 0 ∨ 65536 < s then false
    else if m = 1 then decide (x.tag = 1) && decide ((x.vec.length : Int) = s) && decide (x.str.size = 0)
    else if m = 2 then decide (x.tag = 2) && decide ((x.str.size : Int) = s) && decide (x.vec.length = 0)
    else decide (m = 3) && decide (x.tag = 2) && decide ((x.str.size : Int) ≤ s) && decide (x.vec.length = 0)) := rfl
  obtain ⟨tag, vec, str⟩ := x
  simp only at hR ⊢
  generalize rightO ⟨tag, vec, str⟩ m s = R at hR ⊢
  generalize vec.length = n at hR ⊢
  obtain ⟨z, hm⟩ : ∃ z, str.size = z := ⟨_, rfl⟩
  rw [hm] at hR
  by_cases h0 : s < 0
  · have d0 : decide (s < 0) = true := decide_eq_true h0
    have hR' : R = false := by rw [hR]; simp [*]
    have HR := Lib.hid hR'
    clear hR'
    clear hR
    go_enter Try.func8, Try.ntmps8
    go_wp2_with (fail)
    go_ret
    exact ⟨by rw [HR.out]; rfl, box_blk _ _ _⟩
  have d0 : decide (s < 0) = false := decide_eq_false h0
  by_cases h6 : 65536 < s
  · have d6 : decide (65536 < s) = true := decide_eq_true h6
    have hR' : R = false := by rw [hR]; simp [*]
    have HR := Lib.hid hR'
    clear hR'
    clear hR
    go_enter Try.func8, Try.ntmps8
    go_wp2_with (fail)
    go_ret
    exact ⟨by rw [HR.out]; rfl, box_blk _ _ _⟩
  have d6 : decide (65536 < s) = false := decide_eq_false h6
  by_cases m1 : m = 1
  · subst m1
    by_cases hta : tag = 1
    case neg =>
      have eta : (tag == 1) = false := by simp; omega
      have hR' : R = false := by rw [hR]; simp [*]
      have HR := Lib.hid hR'
      clear hR'
      clear hR
      go_enter Try.func8, Try.ntmps8
      go_wp2_with (fail)
      go_ret
      exact ⟨by rw [HR.out]; rfl, box_blk _ _ _⟩
    have eta : (tag == 1) = true := by simp; omega
    by_cases htb : (n : Int) = s
    case neg =>
      have etb : ((n : Int) == s) = false := by simp; omega
      have hR' : R = false := by rw [hR]; simp [*]
      have HR := Lib.hid hR'
      clear hR'
      clear hR
      go_enter Try.func8, Try.ntmps8
      go_wp2_with (fail)
      go_ret
      exact ⟨by rw [HR.out]; rfl, box_blk _ _ _⟩
    have etb : ((n : Int) == s) = true := by simp; omega
    by_cases htc : z = 0
    case neg =>
      have etc : ((z : Int) == 0) = false := by simp; omega
      have hR' : R = false := by rw [hR]; simp [*]
      have HR := Lib.hid hR'
      clear hR'
      clear hR
      go_enter Try.func8, Try.ntmps8
      go_wp2_with (fail)
      go_ret
      exact ⟨by rw [HR.out]; rfl, box_blk _ _ _⟩
    have etc : ((z : Int) == 0) = true := by simp; omega
    have hR' : R = true := by rw [hR]; simp [*]
    have HR := Lib.hid hR'
    clear hR'
    clear hR
    go_enter Try.func8, Try.ntmps8
    go_wp2_with (fail)
    go_ret
    exact ⟨by rw [HR.out]; rfl, box_blk _ _ _⟩
  have e1 : (m == 1) = false := by simpa using m1
  by_cases m2 : m = 2
  · subst m2
    by_cases hta : tag = 2
    case neg =>
      have eta : (tag == 2) = false := by simp; omega
      have hR' : R = false := by rw [hR]; simp [*]
      have HR := Lib.hid hR'
      clear hR'
      clear hR
      go_enter Try.func8, Try.ntmps8
      go_wp2_with (fail)
      go_ret
      exact ⟨by rw [HR.out]; rfl, box_blk _ _ _⟩
    have eta : (tag == 2) = true := by simp; omega
    by_cases htb : (z : Int) = s
    case neg =>
      have etb : ((z : Int) == s) = false := by simp; omega
      have hR' : R = false := by rw [hR]; simp [*]
      have HR := Lib.hid hR'
      clear hR'
      clear hR
      go_enter Try.func8, Try.ntmps8
      go_wp2_with (fail)
      go_ret
      exact ⟨by rw [HR.out]; rfl, box_blk _ _ _⟩
    have etb : ((z : Int) == s) = true := by simp; omega
    by_cases htc : n = 0
    case neg =>
      have etc : ((n : Int) == 0) = false := by simp; omega
      have hR' : R = false := by rw [hR]; simp [*]
      have HR := Lib.hid hR'
      clear hR'
      clear hR
      go_enter Try.func8, Try.ntmps8
      go_wp2_with (fail)
      go_ret
      exact ⟨by rw [HR.out]; rfl, box_blk _ _ _⟩
    have etc : ((n : Int) == 0) = true := by simp; omega
    have hR' : R = true := by rw [hR]; simp [*]
    have HR := Lib.hid hR'
    clear hR'
    clear hR
    go_enter Try.func8, Try.ntmps8
    go_wp2_with (fail)
    go_ret
    exact ⟨by rw [HR.out]; rfl, box_blk _ _ _⟩
  have e2 : (m == 2) = false := by simpa using m2
  by_cases m3 : m = 3
  case neg =>
    have e3 : (m == 3) = false := by simpa using m3
    have hR' : R = false := by rw [hR]; simp [*]
    have HR := Lib.hid hR'
    clear hR'
    clear hR
    go_enter Try.func8, Try.ntmps8
    go_wp2_with (fail)
    go_ret
    exact ⟨by rw [HR.out]; rfl, box_blk _ _ _⟩
  subst m3
  by_cases hta : tag = 2
  case neg =>
    have eta : (tag == 2) = false := by simp; omega
    have hR' : R = false := by rw [hR]; simp [*]
    have HR := Lib.hid hR'
    clear hR'
    clear hR
    go_enter Try.func8, Try.ntmps8
    go_wp2_with (fail)
    go_ret
    exact ⟨by rw [HR.out]; rfl, box_blk _ _ _⟩
  have eta : (tag == 2) = true := by simp; omega
  by_cases htb : (z : Int) ≤ s
  case neg =>
    have etb : decide ((z : Int) ≤ s) = false := decide_eq_false (by omega)
    have hR' : R = false := by rw [hR]; simp [*]
    have HR := Lib.hid hR'
    clear hR'
    clear hR
    go_enter Try.func8, Try.ntmps8
    go_wp2_with (fail)
    go_ret
    exact ⟨by rw [HR.out]; rfl, box_blk _ _ _⟩
  have etb : decide ((z : Int) ≤ s) = true := decide_eq_true (by omega)
  by_cases htc : n = 0
  case neg =>
    have etc : ((n : Int) == 0) = false := by simp; omega
    have hR' : R = false := by rw [hR]; simp [*]
    have HR := Lib.hid hR'
    clear hR'
    clear hR
    go_enter Try.func8, Try.ntmps8
    go_wp2_with (fail)
    go_ret
    exact ⟨by rw [HR.out]; rfl, box_blk _ _ _⟩
  have etc : ((n : Int) == 0) = true := by simp; omega
  have hR' : R = true := by rw [hR]; simp [*]
  have HR := Lib.hid hR'
  clear hR'
  clear hR
  go_enter Try.func8, Try.ntmps8
  go_wp2_with (fail)
  go_ret
  exact ⟨by rw [HR.out]; rfl, box_blk _ _ _⟩
end Go.Proofs.Ytlgjbdgolchadaa.obj
