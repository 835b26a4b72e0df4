/-
  The contracts of the document's own answers: Short of things and of items, All, Within.
-/
import Derived.Test.YtimkbadjcdnjjaaScB
import Derived.Test.YtimkbadjcdnjjaaGHit
import Derived.Test.YtimkbadjcdnjjaaGMet
import Derived.Deep.RegionHeld3
namespace Go.Proofs.Ytimkbadjcdnjjaa.scan
open Go.RowKit law bytes only flat nums ord obj metric
open hit (Hit hv hv_length lt Rises sortH sortH_is sortH_perm sortH_rises hitE hc_oneOf hv_snoc)
set_option linter.unusedVariables false

theorem oc_len (p : At) : (oc p).length = 3 := rfl
/-- where the things of a row stand -/
theorem things_at {w : World} {B : Nat} {A : Option Addr} {l : List At} (h : Sl w B A (ocs l)) (h0 : 0 < l.length) : ∃ b o, A = some ⟨b, o, none⟩ ∧ b < B ∧ ∀ k (hk : k < l.length),
    w.cell? ⟨b, o + k * 3, none⟩ = some (.int .i64 l[k].x.tag) ∧ w.cell? ⟨b, o + k * 3 + 1, none⟩ = some (.slice l[k].a l[k].x.vec.length l[k].c) ∧ w.cell? ⟨b, o + k * 3 + 2, none⟩ = some (.string l[k].x.str) := by
  have hlen : (ocs l).length = l.length * 3 := flat_length oc_len l
  obtain ⟨b, o, rfl, hb, hc⟩ := Sl.place h (by omega)
  refine ⟨b, o, rfl, hb, fun k hk => ?_⟩
  have g : ∀ j, j < 3 → w.cell? ⟨b, o + (k * 3 + j), none⟩ = (oc l[k])[j]? := fun j hj => by
    have h1 := flat_get oc_len l k j hk hj
    have hlt : k * 3 + j < (ocs l).length := by omega
    rw [show l.flatMap oc = ocs l from rfl, List.getElem?_eq_getElem hlt] at h1
    rw [hc _ hlt, h1]
  exact ⟨g 0 (by omega), g 1 (by omega), g 2 (by omega)⟩
set_option maxHeartbeats 1600000 in
theorem rshort_any (A : Option Addr) (l : List At) (m : Int) (c B : Nat) (w : World) (hs : Sl w B A (ocs l)) (hl : l.length ≤ 9223372036854775807) :
    Calls Try.prog 19 #[.slice A l.length c, .int .i64 m] w fun e w' => e = .returned (.bool (shortL m l)) ∧ w = w' := by
  have HS := Lib.hid hs
  clear hs
  go_enter Try.func19, Try.ntmps19
  go_wp2_with (fail)
  go_loopw [5] (fun i wr => ∃ k : Nat, k ≤ l.length ∧ i = .int .i64 k ∧ shortL m (l.take k) = true ∧ wr = w) (fun i _ => l.length - (intOf i).toNat)
  case atStart => exact ⟨0, Nat.zero_le _, rfl, rfl, rfl⟩
  case round =>
    obtain ⟨k, hk, rfl, HT, rfl⟩ := hrel
    by_cases hlt : k < l.length
    · obtain ⟨b, o, rfl, -, hc⟩ := things_at HS.out (by omega)
      obtain ⟨-, c1, c2⟩ := hc k hlt
      have hnext := shortL_take m l k hlt HT
      have hno := shortL_no m l k hlt
      have hI := shortP_iff m l[k].x
      have HN := Lib.hid hnext
      have HO := Lib.hid hno
      clear hnext hno hc HS
      generalize l[k].x = x at HN HO hI c1 c2
      generalize l[k].a = A at c1
      generalize l[k].c = q at c1
      by_cases h1 : (x.str.size : Int) > m
      · have HF : Hid (shortL m l = false) := Lib.hid (HO.out (by rw [Bool.eq_false_iff]; intro h; have := (hI.1 h).1; omega))
        have d1 : decide ((x.str.size : Int) > m) = true := decide_eq_true h1
        clear h1 hI
        go_wp2
        go_ret
        rw [HF.out]
        exact ⟨rfl, rfl⟩
      · have d1 : decide ((x.str.size : Int) > m) = false := decide_eq_false h1
        by_cases h2 : (x.vec.length : Int) > m
        · have HF : Hid (shortL m l = false) := Lib.hid (HO.out (by rw [Bool.eq_false_iff]; intro h; have := (hI.1 h).2; omega))
          have d2 : decide ((x.vec.length : Int) > m) = true := decide_eq_true h2
          clear h1 h2 hI
          go_wp2
          go_ret
          rw [HF.out]
          exact ⟨rfl, rfl⟩
        · have d2 : decide ((x.vec.length : Int) > m) = false := decide_eq_false h2
          have HF : Hid (shortL m (l.take (k + 1)) = true) := Lib.hid (by rw [HN.out, hI]; constructor <;> omega)
          clear h1 h2 hI
          go_wp2
          go_roundw
          case rel => exact ⟨k + 1, by omega, by go_num, HF.out, trivial⟩
          case measure => simp [intOf]; omega
    · have HF : Hid (shortL m l = true) := Lib.hid (by rwa [List.take_of_length_le (by omega)] at HT)
      go_wp2
      go_ret
      rw [HF.out]
      exact ⟨rfl, rfl⟩
/-- are items short? -/
def shortI (m : Int) (l : List Item) : Bool := l.all fun p => shortP m p.2.x
theorem shortI_take (m : Int) (l : List Item) (k : Nat) (hk : k < l.length) (h : shortI m (l.take k) = true) : shortI m (l.take (k + 1)) = shortP m l[k].2.x := by
  unfold shortI at *
  rw [List.take_succ_eq_append_getElem hk, List.all_append, h]
  simp
theorem shortI_no (m : Int) (l : List Item) (k : Nat) (hk : k < l.length) (h : shortP m l[k].2.x = false) : shortI m l = false := by
  unfold shortI
  rw [List.all_eq_false]
  exact ⟨l[k], List.getElem_mem hk, by simpa using h⟩
def shortR (many m : Int) (l : List Item) (ql : List At) : Bool := decide ((l.length : Int) ≤ many) && decide ((ql.length : Int) ≤ many) && shortL m ql && shortI m l
theorem shortR_of {many m : Int} {l : List Item} {ql : List At} (h : shortR many m l ql = true) : (l.length : Int) ≤ many ∧ (∀ p ∈ l, shortP m p.2.x = true) ∧ ∀ q ∈ ql, shortP m q.x = true := by
  simp only [shortR, Bool.and_eq_true, decide_eq_true_eq, shortL, shortI, List.all_eq_true] at h
  exact ⟨h.1.1.1, h.2, h.1.2⟩
set_option maxRecDepth 100000 in
set_option maxHeartbeats 3200000 in
theorem rshorts_any (A Aq : Option Addr) (l : List Item) (ql : List At) (many m : Int) (c cq B : Nat) (w : World) (hI : Its w B A l) (hB : B ≤ w.heap.size) (hs : Sl w B Aq (ocs ql)) (hl : l.length ≤ 9223372036854775807) (hql : ql.length ≤ 9223372036854775807) :
    Calls Try.prog 6 #[.slice A l.length c, .slice Aq ql.length cq, .int .i64 many, .int .i64 m] w (Gives (.bool (shortR many m l ql)) w) := by
  have HSH := Lib.hid (rshort_any Aq ql m cq B w hs hql)
  obtain ⟨b1, hb1⟩ : ∃ b, decide ((l.length : Int) > many) = b := ⟨_, rfl⟩
  obtain ⟨b2, hb2⟩ : ∃ b, decide ((ql.length : Int) > many) = b := ⟨_, rfl⟩
  obtain ⟨b3, hb3⟩ : ∃ b, shortL m ql = b := ⟨_, rfl⟩
  have hr : shortR many m l ql = (!b1 && !b2 && b3 && shortI m l) := by
    unfold shortR
    rw [← hb1, ← hb2, hb3]
    congr 3
    · by_cases h : (l.length : Int) > many
      · rw [decide_eq_true h, decide_eq_false (by omega)]; rfl
      · rw [decide_eq_false h, decide_eq_true (by omega)]; rfl
    · by_cases h : (ql.length : Int) > many
      · rw [decide_eq_true h, decide_eq_false (by omega)]; rfl
      · rw [decide_eq_false h, decide_eq_true (by omega)]; rfl
  rw [hb3] at HSH
  have HI := Lib.hid hI
  rw [hr]
  clear hr hb3 hs hI
  obtain ⟨si, hsi⟩ : ∃ s, shortI m l = s := ⟨_, rfl⟩
  have HSI := Lib.hid hsi
  rw [hsi]
  clear hsi
  cases b1 with
  | true =>
    have h1 := of_decide_eq_true hb1
    go_enter Try.func6, Try.ntmps6
    go_wp2_with (fail)
    go_ret
    exact ⟨rfl, Below.refl _ _⟩
  | false =>
  cases b2 with
  | true =>
    have h1 := of_decide_eq_true hb2
    have h0 := of_decide_eq_false hb1
    go_enter Try.func6, Try.ntmps6
    go_wp2_with (fail)
    go_ret
    exact ⟨rfl, Below.refl _ _⟩
  | false =>
  cases b3 with
  | false =>
    have h1 := of_decide_eq_false hb2
    have h0 := of_decide_eq_false hb1
    go_enter Try.func6, Try.ntmps6
    go_wp2_with (fail)
    refine HSH.out.mono ?_
    rintro e w2 ⟨rfl, rfl⟩
    go_wp2_with (fail)
    go_ret
    exact ⟨rfl, Below.refl _ _⟩
  | true =>
  have h1 := of_decide_eq_false hb2
  have h0 := of_decide_eq_false hb1
  go_enter Try.func6, Try.ntmps6
  go_wp2_with (fail)
  refine HSH.out.mono ?_
  rintro e w2 ⟨rfl, rfl⟩
  clear HSH hb1 hb2 h0 h1
  go_wp2_with (fail)
  go_loopg [9] l.length (fun gk s9 wr => ∃ i : Nat, gk = l.length - i ∧ i ≤ l.length ∧ s9 = .int .i64 i ∧ shortI m (l.take i) = true ∧ Below w.heap.size w wr)
  case atStart => exact ⟨0, rfl, Nat.zero_le _, rfl, rfl, Below.refl _ _⟩
  case round =>
    obtain ⟨i, rfl, hi, rfl, hsh, hb⟩ := hrel
    by_cases hlt : i < l.length
    · have hsz := hb.size
      obtain ⟨bb, oo, rfl, hbb, hcells⟩ := (HI.out.below (hb.mono hB)).place (by omega)
      obtain ⟨-, d1, d2, d3⟩ := hcells i hlt
      have i1 : (i : Int) < (l.length : Int) := by omega
      have hnext := shortI_take m l i hlt hsh
      have hno := shortI_no m l i hlt
      obtain ⟨⟨id, pt⟩, hp⟩ : ∃ p, l[i] = p := ⟨_, rfl⟩
      rw [hp] at d1 d2 d3 hnext hno
      dsimp only at d1 d2 d3 hnext hno
      have hS := rshort_any (some ⟨wr.heap.size, 0, none⟩) [pt] m 1 _ (wr.alloc (.cells #[.int .i64 pt.x.tag, .slice pt.a pt.x.vec.length pt.c, .string pt.x.str] 25)) (Sl.lit wr (oc pt) _) (by simp)
      have he : shortL m [pt] = shortP m pt.x := by simp [shortL]
      obtain ⟨sp, hsp⟩ : ∃ s, shortP m pt.x = s := ⟨_, rfl⟩
      rw [he, hsp] at hS
      rw [hsp] at hnext hno
      have HS1 := Lib.hid hS
      have HNX := Lib.hid hnext
      have HNO := Lib.hid hno
      have HB2 := Lib.hid (hb.alloc hsz (.cells #[.int .i64 pt.x.tag, .slice pt.a pt.x.vec.length pt.c, .string pt.x.str] 25))
      clear hS hsp he hp hnext hno hcells hb
      go_wp2_with (fail)
      refine HS1.out.mono ?_
      rintro e w2 ⟨rfl, rfl⟩
      clear HS1
      cases sp with
      | false =>
        have HF : Hid (si = false) := Lib.hid (by rw [← HSI.out]; exact HNO.out rfl)
        go_wp2_with (fail)
        go_ret
        rw [HF.out]
        exact ⟨rfl, HB2.out⟩
      | true =>
        go_wp2_with (fail)
        go_roundg (l.length - (i + 1))
        case measure => omega
        case rel => exact ⟨i + 1, rfl, by omega, by go_num, HNX.out, HB2.out⟩
    · obtain rfl : i = l.length := by omega
      have i1 : ¬ (l.length : Int) < (l.length : Int) := by omega
      rw [List.take_length, HSI.out] at hsh
      have HF := Lib.hid hsh
      have HB := Lib.hid hb
      clear hsh hb
      go_wp2_with (fail)
      go_ret
      rw [HF.out]
      exact ⟨rfl, HB.out⟩
end Go.Proofs.Ytimkbadjcdnjjaa.scan
