/-
  The contract of the document's Short: are things short enough; what lives (layer 9).
-/
import Derived.Test.YtdfakjpchgomdaaMeter
namespace Go.Proofs.Ytdfakjpchgomdaa.metric
open Go.RowKit law bytes nums ord obj
set_option linter.unusedVariables false

/-- a thing where its numbers lie -/
structure At where
  a : Option Addr
  c : Nat
  x : Thing
def oc (p : At) : List Value := [.int .i64 p.x.tag, .slice p.a p.x.vec.length p.c, .string p.x.str]
def ocs (l : List At) : List Value := l.flatMap oc
theorem ocs_at (l : List At) (k j : Nat) (hk : k < l.length) (hj : j < 3) : (ocs l)[k * 3 + j]? = (oc l[k])[j]? := by
  induction l generalizing k with
  | nil => simp at hk
  | cons p r ih =>
    have e : ocs (p :: r) = oc p ++ ocs r := by simp [ocs]
    rw [e]
    cases k with
    | zero => rw [Nat.zero_mul, Nat.zero_add, List.getElem?_append_left (by simpa [oc] using hj)]; rfl
    | succ k =>
      rw [List.getElem?_append_right (by simp [oc]; omega), show (k + 1) * 3 + j - (oc p).length = k * 3 + j from by simp [oc]; omega, ih k (by simpa using hk)]
      rfl
def shortP (m : Int) (x : Thing) : Bool := decide ((x.str.size : Int) ≤ m) && decide ((x.vec.length : Int) ≤ m)
def shortL (m : Int) (l : List At) : Bool := l.all fun p => shortP m p.x
theorem shortP_iff (m : Int) (x : Thing) : shortP m x = true ↔ (x.str.size : Int) ≤ m ∧ (x.vec.length : Int) ≤ m := by simp [shortP]
theorem shortL_take (m : Int) (l : List At) (k : Nat) (hk : k < l.length) (h : shortL m (l.take k) = true) : shortL m (l.take (k + 1)) = shortP m l[k].x := by
  unfold shortL at *
  rw [List.take_succ_eq_append_getElem hk, List.all_append, h]
  simp
theorem shortL_no (m : Int) (l : List At) (k : Nat) (hk : k < l.length) (h : shortP m l[k].x = false) : shortL m l = false := by
  unfold shortL
  rw [List.all_eq_false]
  exact ⟨l[k], List.getElem_mem hk, by simpa using h⟩
theorem short_any (l : List At) (m : Int) (g t c : Nat) (w : World) (hm : Blk w g t (ocs l).toArray) (hl : l.length ≤ 9223372036854775807) :
    Calls Try.prog 6 #[.slice (some ⟨g, 0, none⟩) l.length c, .int .i64 m] w fun e w' => e = .returned (.bool (shortL m l)) ∧ w = w' := by
  have hc : ∀ k (h : k < l.length), w.cell? ⟨g, k * 3 + 2, none⟩ = some (.string l[k].x.str) ∧ w.cell? ⟨g, k * 3 + 1, none⟩ = some (.slice l[k].a l[k].x.vec.length l[k].c) := fun k h => by
    have h2 := hm.cell (k * 3 + 2)
    have h1 := hm.cell (k * 3 + 1)
    rw [List.getElem?_toArray, ocs_at l k _ h (by omega)] at h1 h2
    exact ⟨h2, h1⟩
  have HC := Lib.hid hc
  clear hc
  go_enter Try.func6, Try.ntmps6
  go_wp2_with (fail)
  go_loopw [5] (fun i wr => ∃ k : Nat, k ≤ l.length ∧ i = .int .i64 k ∧ shortL m (l.take k) = true ∧ wr = w) (fun i _ => l.length - (intOf i).toNat)
  case atStart => exact ⟨0, Nat.zero_le _, rfl, rfl, rfl⟩
  case round =>
    obtain ⟨k, hk, rfl, HT, rfl⟩ := hrel
    by_cases hlt : k < l.length
    · obtain ⟨c2, c1⟩ := HC.out k hlt
      have hnext := shortL_take m l k hlt HT
      have hno := shortL_no m l k hlt
      have hI := shortP_iff m l[k].x
      have HN := Lib.hid hnext
      have HO := Lib.hid hno
      clear hnext hno
      generalize l[k].x = x at HN HO hI c1 c2
      generalize l[k].a = A at c1
      generalize l[k].c = q at c1
      by_cases h1 : (x.str.size : Int) > m
      · have HF : Hid (shortL m l = false) := Lib.hid (HO.out (by rw [Bool.eq_false_iff]; intro h; have := (hI.1 h).1; omega))
        have d1 : decide ((x.str.size : Int) > m) = true := decide_eq_true h1
        clear h1 hI
        go_wp2
        go_ret
        rw [HF.out]
        exact ⟨rfl, rfl⟩
      · have d1 : decide ((x.str.size : Int) > m) = false := decide_eq_false h1
        by_cases h2 : (x.vec.length : Int) > m
        · have HF : Hid (shortL m l = false) := Lib.hid (HO.out (by rw [Bool.eq_false_iff]; intro h; have := (hI.1 h).2; omega))
          have d2 : decide ((x.vec.length : Int) > m) = true := decide_eq_true h2
          clear h1 h2 hI
          go_wp2
          go_ret
          rw [HF.out]
          exact ⟨rfl, rfl⟩
        · have d2 : decide ((x.vec.length : Int) > m) = false := decide_eq_false h2
          have HF : Hid (shortL m (l.take (k + 1)) = true) := Lib.hid (by rw [HN.out, hI]; constructor <;> omega)
          clear h1 h2 hI
          go_wp2
          go_roundw
          case rel => exact ⟨k + 1, by omega, by go_num, HF.out, trivial⟩
          case measure => simp [intOf]; omega
    · have HF : Hid (shortL m l = true) := Lib.hid (by rwa [List.take_of_length_le (by omega)] at HT)
      go_wp2
      go_ret
      rw [HF.out]
      exact ⟨rfl, rfl⟩
/-! ### what lives -/
def liveA : Thing := ⟨2, [], ⟨#[97, 98]⟩⟩
def liveB : Thing := ⟨2, [], ⟨#[97, 99]⟩⟩
set_option maxHeartbeats 800000 in
theorem lives_any (w : World) : Calls Try.prog 7 #[] w (Gives (.bool true) w) := by
  have hD : ∀ W, Mt W w.heap.size 2 0 → Calls Try.prog 17 #[.pointer (some ⟨w.heap.size, 0, none⟩), .agg #[.int .i64 2, .slice none 0 0, .string ⟨#[97, 98]⟩], .agg #[.int .i64 2, .slice none 0 0, .string ⟨#[97, 99]⟩]] W (Asked w.heap.size 2 1 (.int .i64 1) W) := fun W hm => by
    have h := cdist_any (n := 2) (k := 0) none none 0 0 liveA liveB (by unfold Small dist.Bd; decide) (by unfold Small dist.Bd; decide) W Sl.nil Sl.nil hm (by decide)
    rw [show M 2 liveA liveB = 1 from by decide] at h
    exact h
  have HD := Lib.hid hD
  clear hD
  go_enter Try.func7, Try.ntmps7
  go_wp2_with (fail)
  refine (new_any 2 w).mono ?_
  rintro e w1 ⟨rfl, hm1, hb1⟩
  go_wp2_with (fail)
  refine (HD.out w1 hm1).mono ?_
  rintro e w2 ⟨rfl, hg2, hm2⟩
  have hb2 : Below w.heap.size w w2 := hb1.trans ⟨hg2.os, hg2.tape, hg2.output, hg2.size, fun i hi => hg2.block i (Nat.lt_of_lt_of_le hi hb1.size) (fun e => by injection e with e; omega)⟩
  have HB := Lib.hid hb2
  clear hb2 hg2 hb1 hm1
  go_wp2_with (fail)
  refine (calls_any w2 hm2).mono ?_
  rintro e w3 ⟨rfl, rfl⟩
  go_wp2_with (fail)
  refine (metric_any w2 hm2).mono ?_
  rintro e w3 ⟨rfl, rfl⟩
  go_wp2_with (fail)
  go_ret
  exact ⟨rfl, HB.out⟩
end Go.Proofs.Ytdfakjpchgomdaa.metric
