/-
  The contract of waywiserlaw21.Right, of any deeds.
-/
import Derived.Test.YtaamlidflfdjkaaIts
import Derived.Test.YtaamlidflfdjkaaGMet
import Derived.Deep.CutRange
import Derived.Deep.CutBlock
import Derived.Deep.DeepCutAuto
import Derived.Test.YtaamlidflfdjkaaGObj
namespace Go.Proofs.Ytaamlidflfdjkaa.play
open Go.RowKit Go.WideShapes law bytes only flat nums ord obj came
open aro (Kept)
open store (iE iE_len iE_one itemK itemAt)
set_option linter.unusedVariables false
set_option maxRecDepth 100000

/-- what is done: its kind, an item, items, a number, draws -/
structure Deed where
  kind : Int
  it : Int × Kept
  A : Option Addr
  c : Nat
  l : List (Int × Kept)
  m : Int
  D : Option Addr
  dc : Nat
  raw : List Int
def acE (a : Deed) : List Value := [.int .i64 a.kind, .int .u64 a.it.1, .int .i64 a.it.2.x.tag, .slice a.it.2.A a.it.2.x.vec.length a.it.2.c, .string a.it.2.x.str, .slice a.A a.l.length a.c, .int .i64 a.m, .slice a.D a.raw.length a.dc]
theorem acE_len (a : Deed) : (acE a).length = 8 := rfl
def rgt1 (n s : Int) (a : Deed) : Bool := decide (a.l.length + 1 ≤ 60) && decide (a.raw.length ≤ 100) && (a.it :: a.l).all fun q => rightO q.2.x n s
/-- are all things of deeds right, short and few? -/
def rgt (n s : Int) (l : List Deed) : Bool := decide (l.length ≤ 120) && decide (s ≤ 40) && l.all (rgt1 n s)
theorem deedAt {W : World} {B k : Nat} {A : Option Addr} {q : List Deed} (h : Sl W B A (q.flatMap acE)) (hk : k < q.length) : ∃ b o, A = some ⟨b, o, none⟩ ∧ b < B ∧ W.cell? ⟨b, o + k * 8 + 1, none⟩ = some (.int .u64 q[k].it.1) ∧ W.cell? ⟨b, o + k * 8 + 2, none⟩ = some (.int .i64 q[k].it.2.x.tag) ∧
    W.cell? ⟨b, o + k * 8 + 3, none⟩ = some (.slice q[k].it.2.A q[k].it.2.x.vec.length q[k].it.2.c) ∧ W.cell? ⟨b, o + k * 8 + 4, none⟩ = some (.string q[k].it.2.x.str) ∧ W.cell? ⟨b, o + k * 8 + 5, none⟩ = some (.slice q[k].A q[k].l.length q[k].c) ∧ W.cell? ⟨b, o + k * 8 + 7, none⟩ = some (.slice q[k].D q[k].raw.length q[k].dc) := by
  have hl := flat_length acE_len q
  obtain ⟨b, o, e, hb, hc⟩ := Sl.place h (by rw [hl]; omega)
  have key : ∀ j, (hj : j < 8) → W.cell? ⟨b, o + (k * 8 + j), none⟩ = (acE q[k])[j]? := fun j hj => by
    have h1 := hc (k * 8 + j) (by rw [hl]; omega)
    have h2 := flat_get acE_len q k j hk hj
    rw [List.getElem?_eq_getElem (by rw [hl]; omega)] at h2
    rw [h1, h2]
  exact ⟨b, o, e, hb, key 1 (by decide), key 2 (by decide), key 3 (by decide), key 4 (by decide), key 5 (by decide), key 7 (by decide)⟩
theorem all_take {α : Type} {l : List α} {p : α → Bool} {k : Nat} (hk : k < l.length) : (l.take (k + 1)).all p = ((l.take k).all p && p l[k]) := by
  rw [List.take_succ_eq_append_getElem hk, List.all_append]
  simp
theorem all_no {α : Type} {l : List α} {p : α → Bool} {k : Nat} (hk : k < l.length) (h : p l[k] = false) : l.all p = false := by
  rw [Bool.eq_false_iff]
  intro e
  have := List.all_eq_true.1 e _ (List.getElem_mem hk)
  rw [h] at this
  cases this
set_option maxHeartbeats 6400000 in
theorem right_any (n s : Int) (A : Option Addr) (c : Nat) (l : List Deed) (w : World) (hs : Sl w w.heap.size A (l.flatMap acE)) (hi : ∀ a ∈ l, Sl w w.heap.size a.A (a.l.flatMap iE) ∧ (a.l.length + 1) * 56 ≤ 140737488355328) (hl : l.length ≤ 9223372036854775807) :
    Calls Try.prog 4 #[.int .i64 n, .int .i64 s, .slice A l.length c] w (Gives (.bool (rgt n s l)) w) := by
  by_cases h1 : (l.length : Int) > 120
  · have hr : rgt n s l = false := by unfold rgt; rw [decide_eq_false (by omega : ¬ l.length ≤ 120)]; rfl
    have d0 : decide ((l.length : Int) > 120) = true := decide_eq_true h1
    rw [hr]
    clear hs hi hr h1
    go_enter Try.func4, Try.ntmps4
    go_wp2_with (fail)
    go_ret
    exact ⟨rfl, Below.refl _ _⟩
  have d0 : decide ((l.length : Int) > 120) = false := decide_eq_false h1
  by_cases h2 : s > 40
  · have hr : rgt n s l = false := by unfold rgt; rw [decide_eq_false (by omega : ¬ s ≤ 40)]; simp
    have d1 : decide (s > 40) = true := decide_eq_true h2
    rw [hr]
    clear hs hi hr h1 h2
    go_enter Try.func4, Try.ntmps4
    go_wp2_with (fail)
    go_ret
    exact ⟨rfl, Below.refl _ _⟩
  have d1 : decide (s > 40) = false := decide_eq_false h2
  have hr : rgt n s l = l.all (rgt1 n s) := by unfold rgt; rw [decide_eq_true (by omega : l.length ≤ 120), decide_eq_true (by omega : s ≤ 40)]; simp
  rw [hr]
  have HS := Lib.hid hs
  have HI := Lib.hid hi
  clear hs hi hr h2
  go_enter Try.func4, Try.ntmps4
  go_wp2_with (fail)
  clear d0 d1
  go_loopg [7] l.length (fun gk s7 wr => ∃ i : Nat, gk = l.length - i ∧ i ≤ l.length ∧ s7 = .int .i64 i ∧ (l.take i).all (rgt1 n s) = true ∧ Below w.heap.size w wr)
  case atStart => exact ⟨0, rfl, Nat.zero_le _, rfl, rfl, Below.refl _ _⟩
  case round =>
    obtain ⟨i, rfl, hi, rfl, hall, hb⟩ := hrel
    by_cases hlt : i < l.length
    · have i1 : (i : Int) < (l.length : Int) := by omega
      have i0 : (0 : Int) ≤ (i : Int) := by omega
      have hsz := hb.size
      obtain ⟨b, o, rfl, hb1, c1, c2, c3, c4, c5, c7⟩ := deedAt (HS.out.below hb) hlt
      obtain ⟨hsl, hby⟩ := HI.out _ (List.getElem_mem hlt)
      have htk := all_take (p := rgt1 n s) hlt
      rw [hall, Bool.true_and] at htk
      have hno := all_no (p := rgt1 n s) hlt
      obtain ⟨a, ha⟩ : ∃ a, l[i] = a := ⟨_, rfl⟩
      rw [ha] at c1 c2 c3 c4 c5 c7 hsl hby htk hno
      have HC7 : Hid (∀ W, Below w.heap.size w W → Below wr.heap.size wr W → W.cell? ⟨b, o + i * 8 + 7, none⟩ = some (.slice a.D a.raw.length a.dc)) := Lib.hid fun W _ hW => (hW.cell (p := ⟨b, _, none⟩) (by show b < _; omega)).trans c7
      have HST : Hid (∀ W, Below wr.heap.size wr W → W.cell? ⟨b, o + i * 8 + 5, none⟩ = some (.slice a.A a.l.length a.c) ∧ Sl W W.heap.size a.A (a.l.flatMap iE)) := Lib.hid fun W hW =>
        ⟨(hW.cell (p := ⟨b, _, none⟩) (by show b < _; omega)).trans c5, ((hsl.below hb).below (hW.mono hsz)).more (by have := hW.size; omega)⟩
      clear HS HI hall ha hsl c7
      have hml : a.l.length * 56 ≤ 140737488355328 := by omega
      have e8 : wr.heap.size < (wr.alloc (.cells (iE a.it).toArray 38)).heap.size := by simp
      have HE1 : Hid ((wr.alloc (.cells (iE a.it).toArray 38)).ownsRow w.heap.size 38 4 (.slice (some ⟨wr.heap.size, 0, none⟩) 1 1) 1 (iE a.it)) := Lib.hid
        ⟨rfl, .inr ⟨wr.heap.size, 1, _, rfl, hsz, Blk.new wr _ _, Nat.le_refl _, by unfold maxLen; omega, rfl, rfl⟩⟩
      have hsq := HST.out (wr.alloc (.cells (iE a.it).toArray 38)) ((Below.refl _ _).alloc (Nat.le_refl _) _)
      have HQ := Lib.hid hsq
      have c5a := hsq.1
      have HB := Lib.hid hb
      unfold iE at c5a
      have HF : Hid (∀ W w4, Below wr.heap.size wr W → W.grownBy w4 (Value.slice (some ⟨wr.heap.size, 0, none⟩) 1 1).ownBlock → Below wr.heap.size wr w4) := Lib.hid fun W w4 hW hg => hW.grown hg hW.size (by simp [Value.ownBlock])
      clear hsq hb e8
      go_wp2_with (fail)
      go_cut [8] from 35 (fun s8 wx => ∃ (A4 : Option Addr) (k4 : Nat), s8 = .slice A4 (1 + a.l.length) k4 ∧ wx.ownsRow w.heap.size 38 4 (.slice A4 (1 + a.l.length) k4) (1 + a.l.length) ((a.it :: a.l).flatMap iE) ∧ Below w.heap.size w wx ∧ wx.cell? ⟨b, o + i * 8 + 7, none⟩ = some (.slice a.D a.raw.length a.dc))
      case first =>
        go_region_law (refine step_append_slk _ (by rfl) _ _ _ (by rfl) w.heap.size 38 4 56 Try.underlying32 itemK (by omega) (.slice (some ⟨wr.heap.size, 0, none⟩) 1 1) 1 (iE a.it) (by rfl) HE1.out _ _ a.l.length a.c (a.l.flatMap iE) (by rfl) HQ.out.2 (flat_length iE_len _) (iE_one _) (by omega) (by unfold maxLen; omega) (by simp; omega) ?_; intro v4 w4 hown4 hg4 hat4; obtain ⟨A4, k4, rfl, hk4⟩ := own_slice hown4)
        all_goals
          have hb4 := HF.out _ w4 (by repeat' (first | (with_reducible exact Below.refl _ _) | (with_reducible assumption) | (with_reducible refine Below.drew ?_) | (with_reducible refine below_drewN' ?_ _) | (with_reducible refine Below.alloc ?_ (Nat.le_refl _) _))) hg4
          have HX := Lib.hid (And.intro hown4 (And.intro (HB.out.trans (hb4.mono hsz)) (HC7.out w4 (HB.out.trans (hb4.mono hsz)) hb4)))
          clear hown4 hg4 hat4 hb4 HF HE1 HQ HST HC7 HB c1 c2 c3 c4 c5 c5a
          go_wp2_with (fail)
          go_meet
          case rel => exact ⟨A4, _, rfl, HX.out.1, HX.out.2.1, HX.out.2.2⟩
      case rest =>
        obtain ⟨A4, k4, rfl, hown, hb, c7⟩ := hcut
        clear HC7 HST HE1 HQ HB HF c1 c2 c3 c4 c5 c5a
        have hR : rgt1 n s a = (decide (a.l.length + 1 ≤ 60) && decide (a.raw.length ≤ 100) && (a.it :: a.l).all fun q => rightO q.2.x n s) := rfl
        have hql : (a.it :: a.l).length = 1 + a.l.length := by rw [List.length_cons]; omega
        obtain ⟨m, hm⟩ : ∃ m, 1 + a.l.length = m := ⟨_, rfl⟩
        obtain ⟨q, hq⟩ : ∃ q, a.it :: a.l = q := ⟨_, rfl⟩
        rw [hm] at hown hql ⊢
        rw [hq] at hown hql hR
        rw [show a.l.length + 1 = m by omega] at hR
        have hmb : m * 56 ≤ 140737488355328 := by omega
        clear hby hml hm hq
        have m0 : (0 : Int) ≤ (m : Int) := by omega
        have m63 : (m : Int) < 9223372036854775807 := by omega
        by_cases h60 : (m : Int) > 60
        · have e60 : decide ((m : Int) > 60) = true := decide_eq_true h60
          have HNO := Lib.hid (hno (by rw [hR, decide_eq_false (by omega : ¬ m ≤ 60)]; rfl))
          have HB := Lib.hid hb
          clear hno hb hown h60 hR htk
          go_wp2_with (fail)
          go_ret
          rw [HNO.out]
          exact ⟨rfl, HB.out⟩
        have e60 : decide ((m : Int) > 60) = false := decide_eq_false h60
        by_cases h100 : (a.raw.length : Int) > 100
        · have e100 : decide ((a.raw.length : Int) > 100) = true := decide_eq_true h100
          have HNO := Lib.hid (hno (by rw [hR, decide_eq_false (by omega : ¬ a.raw.length ≤ 100)]; simp))
          have HB := Lib.hid hb
          clear hno hb hown h60 h100 hR htk
          go_wp2_with (fail)
          go_ret
          rw [HNO.out]
          exact ⟨rfl, HB.out⟩
        have e100 : decide ((a.raw.length : Int) > 100) = false := decide_eq_false h100
        have hR2 : rgt1 n s a = q.all fun q => rightO q.2.x n s := by rw [hR, decide_eq_true (by omega : m ≤ 60), decide_eq_true (by omega : a.raw.length ≤ 100)]; rfl
        have HO := Lib.hid (And.intro hown hb)
        have HR2 := Lib.hid hR2
        have HNO := Lib.hid hno
        have HTK := Lib.hid htk
        have HQL := Lib.hid hql
        clear hown hb hno htk hR hR2 h60 h100 hql hmb
        go_wp2_with (fail)
        clear c7 e60 e100
        go_loopg [9] m (fun gk s9 wr => ∃ k : Nat, gk = m - k ∧ k ≤ m ∧ s9 = .int .i64 k ∧ (q.take k).all (fun q => rightO q.2.x n s) = true ∧ Below w.heap.size w wr ∧ wr.ownsRow w.heap.size 38 4 (.slice A4 m k4) m (q.flatMap iE))
        case atStart => exact ⟨0, rfl, Nat.zero_le _, rfl, rfl, HO.out.2, HO.out.1⟩
        case round =>
          clear HO
          obtain ⟨k, rfl, hk, rfl, hal, hb, hown⟩ := hrel
          by_cases hkl : k < m
          · have j1 : (k : Int) < (m : Int) := by omega
            have j0 : (0 : Int) ≤ (k : Int) := by omega
            have hkq : k < q.length := by rw [HQL.out]; exact hkl
            obtain ⟨b', o', rfl, -, -, d1, d2, d3⟩ := itemAt (Sl.of_ownK hown) hkq
            have htk2 := all_take (p := fun q : Int × Kept => rightO q.2.x n s) hkq
            rw [hal, Bool.true_and] at htk2
            have hno2 := all_no (p := fun q : Int × Kept => rightO q.2.x n s) hkq
            obtain ⟨p, hp⟩ : ∃ p, q[k]'hkq = p := ⟨_, rfl⟩
            rw [hp] at d1 d2 d3
            have hc := rright_any p.2.A p.2.c p.2.x n s wr
            obtain ⟨z, hz⟩ : ∃ z, rightO p.2.x n s = z := ⟨_, rfl⟩
            rw [hz] at hc
            simp only [hp, hz] at htk2 hno2
            clear hp hkq
            have HC := Lib.hid hc
            have HB := Lib.hid (And.intro hb hown)
            have H2 := Lib.hid (And.intro htk2 hno2)
            clear hc hb hown htk2 hno2 hz hal
            go_wp2_with (fail)
            refine HC.out.mono ?_
            rintro e w5 ⟨rfl, hb5⟩
            have HB5 := Lib.hid (And.intro (HB.out.1.trans (hb5.mono HB.out.1.size)) (own_below HB.out.2 hb5 (Nat.le_refl _)))
            clear hb5 HB HC d1 d2 d3
            cases z with
            | true =>
              go_wp2_with (fail)
              go_roundg (m - (k + 1))
              case measure => omega
              case rel => exact ⟨k + 1, rfl, by omega, by go_num, H2.out.1, HB5.out.1, HB5.out.2⟩
            | false =>
              have HF := Lib.hid (HNO.out (by rw [HR2.out]; exact H2.out.2 rfl))
              go_wp2_with (fail)
              go_ret
              rw [HF.out]
              exact ⟨rfl, HB5.out.1⟩
          · obtain rfl : k = m := by omega
            have j1 : ¬ (k : Int) < (k : Int) := by omega
            rw [List.take_of_length_le (by rw [HQL.out]; exact Nat.le_refl _)] at hal
            have HX := Lib.hid (And.intro (HTK.out.trans (HR2.out.trans hal)) hb)
            clear hal hb hown
            go_wp2_with (fail)
            go_roundg (l.length - (i + 1))
            case measure => omega
            case rel => exact ⟨i + 1, rfl, by omega, by go_num, HX.out.1, HX.out.2⟩
    · obtain rfl : i = l.length := by omega
      have i1 : ¬ (l.length : Int) < (l.length : Int) := by omega
      rw [List.take_length] at hall
      rw [hall]
      have HE := Lib.hid hb
      clear hb
      go_wp2_with (fail)
      go_ret
      exact ⟨rfl, HE.out⟩
end Go.Proofs.Ytaamlidflfdjkaa.play
