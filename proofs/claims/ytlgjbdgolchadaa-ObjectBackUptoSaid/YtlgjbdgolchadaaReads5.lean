/-
  The contracts of package code's reader, part by part.
-/
import Derived.Test.YtlgjbdgolchadaaReader
import Derived.Test.YtlgjbdgolchadaaWrite5
import Derived.Laws.IdiomStrings
import Derived.Laws.BytesArg
namespace Go.Proofs.Ytlgjbdgolchadaa.code
open Go.RowKit law bytes nums
set_option linter.unusedVariables false

theorem Rd.alloc {w : World} {g : Nat} {s : St} (h : Rd w g s) (o : Obj) : Rd (w.alloc o) g s := by
  obtain ⟨A, c, hb, hc, hs⟩ := h
  exact ⟨A, c, hb.alloc o, hc, hs.alloc (Nat.le_of_lt hb.lt) o⟩
theorem Rd.lt {w : World} {g : Nat} {s : St} (h : Rd w g s) : g < w.heap.size := by
  obtain ⟨A, c, hb, hc, hs⟩ := h
  exact hb.lt
theorem Rd.drewN {w : World} {g : Nat} {s : St} (h : Rd w g s) (k : Nat) : Rd (w.drewN k) g s := h
theorem Rd.below {w w' : World} {g B : Nat} {s : St} (h : Rd w g s) (hb : Below B w w') (hg : g < B) : Rd w' g s := by
  obtain ⟨A, c, h1, hc, hs⟩ := h
  exact ⟨A, c, h1.below hb hg, hc, hs.below (hb.mono (Nat.le_of_lt hg))⟩
theorem Rd.grown {w w' : World} {g : Nat} {s : St} {row : Option Nat} (h : Rd w g s) (hb : w.grownBy w' row) (hr : ∀ k, row = some k → g < k) : Rd w' g s := by
  obtain ⟨A, c, h1, hc, hs⟩ := h
  exact ⟨A, c, h1.grown hb (fun e => absurd (hr g e.symm) (Nat.lt_irrefl g)), hc, hs.grown hb (Nat.le_of_lt h1.lt) (fun k hk => Nat.le_of_lt (hr k hk))⟩
theorem Read.back {g : Nat} {s : St} {v : Value} {w w1 : World} {e : Ending} {w' : World} (h : Read g s v w1 e w') (hb : w.grownBy w1 (some g)) : Read g s v w e w' := ⟨h.1, only_trans hb h.2.1, h.2.2⟩

theorem makes : ∀ (fn : Fn) (first cap : Array Value) (w : World), (Instr.makeFunc fn first cap).run Try.prog w = .ok (.func fn first cap) w := fun _ _ _ _ => rfl

theorem mayN_any (most n : Nat) (b : Nat) (w : World) (hc : w.cell? ⟨b, 0, none⟩ = some (.int .u64 most)) :
    Calls Try.prog 62 #[.int .u64 n, .pointer (some ⟨b, 0, none⟩)] w fun e w' => e = .returned (.bool (mayN most n)) ∧ w = w' := by
  go_enter Try.func62, Try.ntmps62
  go_wp2
  go_ret
  exact ⟨ret_bool (by unfold mayN; simp), rfl⟩
theorem mayI_any (low high : Int) (n : Nat) (hn : U64 n) (b b' : Nat) (w : World) (hc : w.cell? ⟨b, 0, none⟩ = some (.int .i64 low)) (hc' : w.cell? ⟨b', 0, none⟩ = some (.int .i64 high)) :
    Calls Try.prog 53 #[.int .u64 n, .pointer (some ⟨b, 0, none⟩), .pointer (some ⟨b', 0, none⟩)] w fun e w' => e = .returned (.bool (mayI low high n)) ∧ w = w' := by
  have hx := intOf_any n hn w
  by_cases h1 : low ≤ decI n
  · have hd : decide (low ≤ decI n) = true := decide_eq_true h1
    go_enter Try.func53, Try.ntmps53
    go_wp2_with (go_at_call 51; (with_reducible refine hx.mono ?_); rintro e w' ⟨rfl, rfl⟩)
    go_ret
    exact ⟨ret_bool (by unfold mayI; rw [decide_eq_true h1]; rfl), rfl⟩
  · have hd : decide (low ≤ decI n) = false := decide_eq_false h1
    go_enter Try.func53, Try.ntmps53
    go_wp2_with (go_at_call 51; (with_reducible refine hx.mono ?_); rintro e w' ⟨rfl, rfl⟩)
    go_ret
    exact ⟨ret_bool (by unfold mayI; rw [decide_eq_false (by omega)]; rfl), rfl⟩
def mayT (most : Int) (n : Nat) : Bool := decide (0 ≤ most) && decide ((n : Int) ≤ most)
theorem mayT_any (most : Int) (hm : -9223372036854775808 ≤ most ∧ most ≤ 9223372036854775807) (n : Nat) (b : Nat) (w : World) (hc : w.cell? ⟨b, 0, none⟩ = some (.int .i64 most)) :
    Calls Try.prog 56 #[.int .u64 n, .pointer (some ⟨b, 0, none⟩)] w fun e w' => e = .returned (.bool (mayT most n)) ∧ w = w' := by
  by_cases h1 : 0 ≤ most
  · have hd : decide (0 ≤ most) = true := decide_eq_true h1
    go_enter Try.func56, Try.ntmps56
    go_wp2
    go_ret
    exact ⟨ret_bool (by unfold mayT; rw [decide_eq_true h1]; rfl), rfl⟩
  · have hd : decide (0 ≤ most) = false := decide_eq_false h1
    go_enter Try.func56, Try.ntmps56
    go_wp2
    go_ret
    exact ⟨ret_bool (by unfold mayT; rw [decide_eq_false (by omega)]; rfl), rfl⟩

theorem rnum_read (g : Nat) (s : St) (most : Nat) (w : World) (hr : Rd w g s) (hl : s.b.length ≤ 281474976710656) :
    Calls Try.prog 54 #[.pointer (some ⟨g, 0, none⟩), .int .u64 most] w (Read g (numS s (mayN most)).2 (.int .u64 (numS s (mayN most)).1) w) := by
  have hcell : (w.alloc (.cells #[.int .u64 most] 66)).cell? ⟨w.heap.size, 0, none⟩ = some (.int .u64 most) := (Blk.new w 66 #[.int .u64 most]).cell 0
  have hx := number_any g s 62 #[.pointer (some ⟨w.heap.size, 0, none⟩)] (mayN most) _ (hr.alloc (.cells #[.int .u64 most] 66)) hl (enters_of Try.func62 (by kernel_rfl) rfl) (fun n _ => mayN_any most n _ _ hcell)
  have hmf := makes
  go_enter Try.func54, Try.ntmps54
  go_wp2_with (go_at_call 52; (with_reducible refine hx.mono ?_); rintro e w' ⟨rfl, hg1, hr1⟩)
  go_ret
  exact ⟨rfl, only_trans (only_alloc (only_refl w _) _) hg1, hr1⟩
theorem rint_read (g : Nat) (s : St) (low high : Int) (w : World) (hr : Rd w g s) (hl : s.b.length ≤ 281474976710656) :
    Calls Try.prog 39 #[.pointer (some ⟨g, 0, none⟩), .int .i64 low, .int .i64 high] w (Read g (numS s (mayI low high)).2 (.int .i64 (decI (numS s (mayI low high)).1)) w) := by
  have hc1 : ((w.alloc (.cells #[.int .i64 low] 3)).alloc (.cells #[.int .i64 high] 3)).cell? ⟨w.heap.size, 0, none⟩ = some (.int .i64 low) := ((Blk.new w 3 #[.int .i64 low]).alloc _).cell 0
  have hc2 : ((w.alloc (.cells #[.int .i64 low] 3)).alloc (.cells #[.int .i64 high] 3)).cell? ⟨(w.alloc (.cells #[.int .i64 low] 3)).heap.size, 0, none⟩ = some (.int .i64 high) := (Blk.new (w.alloc (.cells #[.int .i64 low] 3)) 3 #[.int .i64 high]).cell 0
  have hz : (w.alloc (.cells #[.int .i64 low] 3)).heap.size = w.heap.size + 1 := by simp
  rw [hz] at hc2
  have hx := number_any g s 53 #[.pointer (some ⟨w.heap.size, 0, none⟩), .pointer (some ⟨w.heap.size + 1, 0, none⟩)] (mayI low high) _ ((hr.alloc (.cells #[.int .i64 low] 3)).alloc (.cells #[.int .i64 high] 3)) hl (enters_of Try.func53 (by kernel_rfl) rfl) (fun n hn => mayI_any low high n hn _ _ _ hc1 hc2)
  have hy := intOf_any (numS s (mayI low high)).1 (numS_lt s _)
  have hmf := makes
  clear hc1 hc2 hz
  go_enter Try.func39, Try.ntmps39
  go_wp2_with (first
    | (go_at_call 52; (with_reducible refine hx.mono ?_); rintro e w' ⟨rfl, hg1, hr1⟩)
    | (go_at_call 51; (with_reducible refine (hy _).mono ?_); rintro e w'' ⟨rfl, rfl⟩))
  go_ret
  exact ⟨rfl, only_trans (only_alloc (only_alloc (only_refl w _) _) _) hg1, hr1⟩
theorem conv_sl {w : World} {B : Nat} {A : Option Addr} {l : List UInt8} (h : Sl w B A (bv l)) (n c : Nat) (hn : n = l.length) :
    (convert 32 9 (.slice A n c)).run Try.prog w = .ok (.string ⟨l.toArray⟩) w := by
  subst hn
  rcases A with _ | a
  · obtain rfl : l = [] := by
      rcases l with _ | ⟨x, r⟩
      · rfl
      · obtain ⟨ad, h, _⟩ := h 0 _ rfl
        cases h
    exact run_convert_bytes_nil w 32 5 Try.underlying32 Try.underlying5 _ _ 9 Try.underlying9
  · refine run_convert_bytes_back w 32 9 5 a c l Try.underlying32 Try.underlying5 Try.underlying9 (fun j hj => ?_)
    obtain ⟨ad, e, _, hc⟩ := h.byte hj
    injection e with e
    subst e
    exact hc
set_option maxHeartbeats 600000 in
theorem rtext_read (g : Nat) (s : St) (most : Int) (hm : -9223372036854775808 ≤ most ∧ most ≤ 9223372036854775807) (w : World) (hr : Rd w g s) (hl : s.b.length ≤ 281474976710656) :
    Calls Try.prog 41 #[.pointer (some ⟨g, 0, none⟩), .int .i64 most] w (Read g (textS s most).2 (.string ⟨(textS s most).1.toArray⟩) w) := by
  have hcell : (w.alloc (.cells #[.int .i64 most] 3)).cell? ⟨w.heap.size, 0, none⟩ = some (.int .i64 most) := (Blk.new w 3 #[.int .i64 most]).cell 0
  have hx := number_any g s 56 #[.pointer (some ⟨w.heap.size, 0, none⟩)] (mayT most) _ (hr.alloc (.cells #[.int .i64 most] 3)) hl (enters_of Try.func56 (by kernel_rfl) rfl) (fun n _ => mayT_any most hm n _ _ hcell)
  have hu := numS_lt s (mayT most)
  have hle := numS_len s (mayT most)
  have hts : textS s most = if (numS s (mayT most)).2.b.length < (numS s (mayT most)).1 then ([], ⟨[], 13⟩) else ((numS s (mayT most)).2.b.take (numS s (mayT most)).1, ⟨(numS s (mayT most)).2.b.drop (numS s (mayT most)).1, (numS s (mayT most)).2.e⟩) := rfl
  obtain ⟨r, hr2⟩ : ∃ r, r = numS s (mayT most) := ⟨_, rfl⟩
  rw [← hr2] at hx hu hle hts
  have HT := Lib.hid hts
  have hmf := makes
  have hu1 : (r.1 : Int) ≤ 18446744073709551615 := by omega
  clear hts hr2 hcell hm hu
  by_cases hlt : r.2.b.length < r.1
  · have hd : decide (r.2.b.length < r.1) = true := decide_eq_true hlt
    go_enter Try.func41, Try.ntmps41
    go_wp2_with (first
      | (go_at_call 52; (with_reducible refine hx.mono ?_); rintro e w1 ⟨rfl, hg1, A, c, hb1, hc1, hs1⟩
         have c0 : w1.cell? ⟨g, 0, none⟩ = some (.slice A r.2.b.length c) := hb1.cell 0)
      | (go_at_call 57; (with_reducible refine (stop_any g _ _ ⟨_, _, _, rfl⟩ ⟨_, rfl⟩ 13 _ hb1).mono ?_); rintro e w' ⟨rfl, hg2, hr2⟩))
    go_ret
    rw [HT.out, if_pos hlt]
    exact ⟨rfl, only_trans (only_trans (only_alloc (only_refl w _) _) hg1) hg2, hr2⟩
  · have hd : decide (r.2.b.length < r.1) = false := decide_eq_false hlt
    go_enter Try.func41, Try.ntmps41
    go_wp2_with (first
      | (go_at_call 52; (with_reducible refine hx.mono ?_); rintro e w1 ⟨rfl, hg1, A, c, hb1, hc1, hs1⟩
         have c0 : w1.cell? ⟨g, 0, none⟩ = some (.slice A r.2.b.length c) := hb1.cell 0
         have f0 : w1.frozen? ⟨g, 0, none⟩ = false := hb1.frozen 0
         have hcv := fun c' => conv_sl (A := A) (l := r.2.b.take r.1) (by rw [bv_take]; exact hs1.take r.1) r.1 c' (by rw [List.length_take]; omega)))
    · go_ret
      have hcr : c = r.1 := by assumption
      rw [HT.out, if_neg hlt]
      have hz : r.2.b.drop r.1 = [] := List.drop_eq_nil_of_le (by omega)
      rw [hz]
      obtain ⟨h5, h6⟩ := rd_cut (n := r.2.b.length - r.1) (c' := 0) (A' := A) (R := []) hb1 (by simp; omega) (by omega) Sl.nil
      exact ⟨rfl, only_trans (only_trans (only_alloc (only_refl w _) _) hg1) h5, h6⟩
    · go_ret
      rw [HT.out, if_neg hlt]
      obtain ⟨h5, h6⟩ := rd_cut (n := r.2.b.length - r.1) (c' := c - r.1) (R := r.2.b.drop r.1) hb1 List.length_drop.symm (by omega) (by rw [bv_drop]; exact hs1.drop r.1)
      exact ⟨rfl, only_trans (only_trans (only_alloc (only_refl w _) _) hg1) h5, h6⟩

theorem left_any (g : Nat) (s : St) (w : World) (hr : Rd w g s) (hl : s.b.length ≤ 281474976710656) :
    Calls Try.prog 25 #[.pointer (some ⟨g, 0, none⟩)] w fun e w' => e = .returned (.int .i64 s.b.length) ∧ w = w' := by
  obtain ⟨A, c, hb, hc, hs⟩ := hr
  have c0 : w.cell? ⟨g, 0, none⟩ = some (.slice A s.b.length c) := hb.cell 0
  go_enter Try.func25, Try.ntmps25
  go_wp2
  go_ret
  exact ⟨rfl, rfl⟩
theorem end_any (g : Nat) (s : St) (w : World) (hr : Rd w g s) (hl : s.b.length ≤ 281474976710656) :
    Calls Try.prog 26 #[.pointer (some ⟨g, 0, none⟩)] w fun e w' => e = .returned (.int .i64 (endP s)) ∧ w = w' := by
  obtain ⟨A, c, hb, hc, hs⟩ := hr
  have c0 : w.cell? ⟨g, 0, none⟩ = some (.slice A s.b.length c) := hb.cell 0
  have c1 : w.cell? ⟨g, 1, none⟩ = some (.int .i64 s.e) := hb.cell 1
  by_cases he : s.e = 0
  · have d1 : (s.e == 0) = true := by simpa using he
    have d2 : (s.e != 0) = false := by simpa using he
    by_cases hz : s.b.length = 0
    · have HE : endP s = 0 := by unfold endP; rw [if_pos he, if_pos hz]
      have HE := Lib.hid HE
      have d3 : decide ((0 : Int) < (s.b.length : Int)) = false := decide_eq_false (by omega)
      have d4 : decide (0 < s.b.length) = false := decide_eq_false (by omega)
      clear he hz
      go_enter Try.func26, Try.ntmps26
      go_wp2
      go_ret
      exact ⟨by rw [HE.out]; rfl, rfl⟩
    · have HE : endP s = 12 := by unfold endP; rw [if_pos he, if_neg hz]
      have HE := Lib.hid HE
      have d3 : decide ((0 : Int) < (s.b.length : Int)) = true := decide_eq_true (by omega)
      have d4 : decide (0 < s.b.length) = true := decide_eq_true (by omega)
      clear he hz
      go_enter Try.func26, Try.ntmps26
      go_wp2
      go_ret
      exact ⟨by rw [HE.out]; rfl, rfl⟩
  · have d1 : (s.e == 0) = false := by simpa using he
    have d2 : (s.e != 0) = true := by simpa using he
    have HE : endP s = s.e := by unfold endP; rw [if_neg he]
    have HE := Lib.hid HE
    clear he
    go_enter Try.func26, Try.ntmps26
    go_wp2
    go_ret
    exact ⟨by rw [HE.out]; rfl, rfl⟩
/-- a new reader, of a copy -/
def NewRd (b : List UInt8) (w : World) (e : Ending) (w' : World) : Prop := ∃ g, e = .returned (.pointer (some ⟨g, 0, none⟩)) ∧ w.heap.size ≤ g ∧ Rd w' g ⟨b, 0⟩ ∧ Below w.heap.size w w'
theorem newr_any (A : Option Addr) (l : List UInt8) (n c B : Nat) (w : World) (hn : l.length = n) (hm : n ≤ 140737488355328) (hB : B ≤ w.heap.size) (hs : Sl w B A (bv l)) :
    Calls Try.prog 17 #[.slice A n c] w (NewRd l w) := by
  subst hn
  have hx := clone_any A l _ c B w rfl hm hB hs
  go_enter Try.func17, Try.ntmps17
  go_wp2_with (go_at_call 38; (with_reducible refine hx.mono ?_); rintro e w1 ⟨A1, c1, rfl, hc1, hs1, hb1⟩)
  go_ret
  exact ⟨w1.heap.size, rfl, hb1.size, ⟨A1, c1, Blk.new w1 _ _, hc1, hs1.alloc (Nat.le_refl _) _⟩, hb1.alloc hb1.size _⟩

/-! ### nil -/
theorem number_nil (v : Value) (w : World) : Calls Try.prog 52 #[.pointer none, v] w fun e w' => e = .returned (.int .u64 0) ∧ w = w' := by
  go_enter Try.func52, Try.ntmps52
  go_wp2
  go_ret
  exact ⟨rfl, rfl⟩
theorem rnum_nil (most : Int) (w : World) : Calls Try.prog 54 #[.pointer none, .int .u64 most] w fun e w' => e = .returned (.int .u64 0) ∧ Below w.heap.size w w' := by
  have hmf := makes
  go_enter Try.func54, Try.ntmps54
  go_wp2_with (go_at_call 52; (with_reducible refine (number_nil _ _).mono ?_); rintro e w' ⟨rfl, rfl⟩)
  go_ret
  exact ⟨rfl, (Below.refl _ _).alloc (Nat.le_refl _) _⟩
theorem rint_nil (low high : Int) (w : World) : Calls Try.prog 39 #[.pointer none, .int .i64 low, .int .i64 high] w fun e w' => e = .returned (.int .i64 0) ∧ Below w.heap.size w w' := by
  have hmf := makes
  have hy := intOf_any 0 (by unfold U64; omega)
  rw [show ((0 : Nat) : Int) = 0 from rfl, show decI 0 = 0 from rfl] at hy
  go_enter Try.func39, Try.ntmps39
  go_wp2_with (first
    | (go_at_call 52; (with_reducible refine (number_nil _ _).mono ?_); rintro e w' ⟨rfl, rfl⟩)
    | (go_at_call 51; (with_reducible refine (hy _).mono ?_); rintro e w'' ⟨rfl, rfl⟩))
  go_ret
  exact ⟨rfl, ((Below.refl _ _).alloc (Nat.le_refl _) _).alloc (by simp) _⟩
theorem rtext_nil (most : Int) (w : World) : Calls Try.prog 41 #[.pointer none, .int .i64 most] w fun e w' => e = .returned (.string ⟨#[]⟩) ∧ Below w.heap.size w w' := by
  go_enter Try.func41, Try.ntmps41
  go_wp2
  go_ret
  exact ⟨rfl, (Below.refl _ _).alloc (Nat.le_refl _) _⟩
theorem left_nil (w : World) : Calls Try.prog 25 #[.pointer none] w fun e w' => e = .returned (.int .i64 0) ∧ w = w' := by
  go_enter Try.func25, Try.ntmps25
  go_wp2
  go_ret
  exact ⟨rfl, rfl⟩
theorem end_nil (w : World) : Calls Try.prog 26 #[.pointer none] w fun e w' => e = .returned (.int .i64 1) ∧ w = w' := by
  go_enter Try.func26, Try.ntmps26
  go_wp2
  go_ret
  exact ⟨rfl, rfl⟩
end Go.Proofs.Ytlgjbdgolchadaa.code
