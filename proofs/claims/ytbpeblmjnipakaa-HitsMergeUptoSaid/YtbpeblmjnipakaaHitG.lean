/-
  The contracts of slices.Grow of nothing, slices.Concat of two rows of hits.
-/
import Derived.Test.YtbpeblmjnipakaaHitS
import Derived.Lib.Walk
import Derived.Lib.AppendZerosOnto
import Derived.Deep.LoopGhost
namespace Go.Proofs.Ytbpeblmjnipakaa.hit
open Go.RowKit law bytes only flat Go.Sort Go.Shelf
set_option linter.unusedVariables false

/-- room, and nothing in it -/
def Room (w : World) (e : Ending) (w' : World) : Prop := ∃ A c, e = .returned (.slice A 0 c) ∧ w'.ownsRow w.heap.size 31 2 (.slice A 0 c) 0 [] ∧ Below w.heap.size w w'
set_option maxRecDepth 100000 in
set_option maxHeartbeats 1600000 in
theorem grow_any (m : Nat) (hm : m * 16 ≤ 140737488355328) (w : World) : Calls Try.prog 23 #[.slice none 0 0, .int .i64 m] w (Room w) := by
  have h1 : decide ((m : Int) < 0) = false := decide_eq_false (by omega)
  rcases Nat.eq_zero_or_pos m with rfl | hp
  · go_enter Try.func23, Try.ntmps23
    go_wp2
    go_ret
    exact ⟨none, 0, rfl, World.ownsRow_nil _ _ _ _, Below.refl _ _⟩
  · obtain ⟨i0, z0, hi, hz0, hz1, hz2, hz3⟩ := hitE
    have h2 : decide ((0 : Int) < (m : Int)) = true := decide_eq_true (by omega)
    have h3 : decide (0 < m) = true := decide_eq_true hp
    have hold : (Builtin.firstCells i0.size 0 (.slice none 0 0)).run Try.prog w.drew = .ok ([] : List Value).toArray w.drew := run_firstCells_none w.drew _ 0 0 0
    have h := fun ty => Lib.run_append_grow_zeros w 22 3 ty 31 i0 z0 .i64 .i64 Try.underlying22 Try.underlying3 hi hz0 none 0 0 [] hold m hp (by omega) (by omega) (by omega) (by rw [hz2]; omega) (growslice_fits (by omega) (by rw [hz2]; omega))
    obtain ⟨G, hG⟩ : ∃ G, G = grownCap w (0 + m) 0 31 := ⟨_, rfl⟩
    have hG1 : 0 + m ≤ G := by rw [hG]; exact grownCap_ge w _ _ _
    have hG2 : G ≤ maxLen := by rw [hG]; exact grownCap_le_maxLen w _ _ _ (by unfold maxLen; omega)
    rw [← hG, Nat.zero_add] at h
    obtain ⟨cur, hc⟩ : ∃ cur, cur = (([] : List Value).toArray ++ Builtin.zeroCells z0.cells m ++ Builtin.zeroCells z0.cells (G - m)) := ⟨_, rfl⟩
    have hcs : cur.size = G * 2 := by rw [hc]; simp only [Array.size_append, size_zeroCells, hz3, List.size_toArray, List.length_nil]; omega
    rw [← hc] at h
    have hown := World.ownsRow_made (base := w.heap.size) (e := 31) (size := 2) w.drew cur G (Nat.le_refl _) hG2 hcs
    clear hc hcs hold hG hi hz0 hz1 hz2 hz3
    have hG3 : G ≤ 9223372036854775807 := by unfold maxLen at hG2; omega
    clear hG2
    go_enter Try.func23, Try.ntmps23
    go_wp2_with (at_builtin; refine Lib.wpList_append_run _ rfl _ _ _ _ rfl _ _ rfl rfl _ _ (h _) ?_)
    go_ret
    exact ⟨_, G, rfl, hown, ((Below.refl _ w).drew).alloc (Nat.le_refl _) _⟩
/-- what a row holds behind k of two -/
def two (a b : List Hit) (k : Nat) : List Hit := if k = 0 then [] else if k = 1 then a else a ++ b
set_option maxRecDepth 100000 in
set_option maxHeartbeats 3200000 in
theorem concat_any (A A' : Option Addr) (a b : List Hit) (c c' B g : Nat) (w : World) (hm : (a.length + b.length) * 16 ≤ 140737488355328) (hB : B ≤ w.heap.size) (hg : g < w.heap.size) (ha : Sl w B A (hv a)) (hb : Sl w B A' (hv b))
    (h0 : w.cell? ⟨g, 0, none⟩ = some (.slice A a.length c)) (h1 : w.cell? ⟨g, 1, none⟩ = some (.slice A' b.length c')) :
    Calls Try.prog 14 #[.slice (some ⟨g, 0, none⟩) 2 2] w (Own (a ++ b) w) := by
  have HW : Hid (∀ W, Below w.heap.size w W → Sl W B A (hv a) ∧ Sl W B A' (hv b) ∧ W.cell? ⟨g, 0, none⟩ = some (.slice A a.length c) ∧ W.cell? ⟨g, 1, none⟩ = some (.slice A' b.length c')) := Lib.hid fun W hW =>
    ⟨ha.below (hW.mono hB), hb.below (hW.mono hB), (hW.cell (p := ⟨g, 0, none⟩) hg).trans h0, (hW.cell (p := ⟨g, 1, none⟩) hg).trans h1⟩
  clear ha hb
  obtain ⟨p, hp⟩ : ∃ p, a.length = p := ⟨_, rfl⟩
  obtain ⟨q, hq⟩ : ∃ q, b.length = q := ⟨_, rfl⟩
  rw [hp] at h0 HW hm
  rw [hq] at h1 HW hm
  have hgr := grow_any (p + q) hm w
  rw [Int.natCast_add] at hgr
  have HG := Lib.hid hgr
  clear hgr
  have HPQ : Hid (a.length = p ∧ b.length = q) := Lib.hid ⟨hp, hq⟩
  clear hp hq
  have s0 : decide ((p : Int) < 0) = false := decide_eq_false (by omega)
  have s1 : decide ((p : Int) + (q : Int) < 0) = false := decide_eq_false (by omega)
  go_enter Try.func14, Try.ntmps14
  go_wp2_with (fail)
  go_loopg [3, 11] 2 (fun gk s3 s11 wr => ∃ k : Nat, k ≤ 2 ∧ gk = 2 - k ∧ s11 = .int .i64 k ∧ (k = 0 → s3 = .int .i64 0) ∧ (k = 1 → s3 = .int .i64 p) ∧ (k = 2 → s3 = .int .i64 ((p : Int) + (q : Int))) ∧ w = wr)
  case atStart => exact ⟨0, by omega, rfl, rfl, fun _ => rfl, by omega, by omega, rfl⟩
  case round =>
    obtain ⟨k, hk, rfl, rfl, e0, e1, e2, rfl⟩ := hrel
    rcases Nat.lt_or_ge k 1 with hl1 | hl1
    · obtain rfl : k = 0 := by omega
      obtain rfl := e0 rfl
      clear e0 e1 e2
      go_wp2_with (fail)
      go_roundg 1
      case measure => omega
      case rel => exact ⟨1, by omega, rfl, by go_num, by omega, fun _ => by go_num, by omega, rfl⟩
    · rcases Nat.lt_or_ge k 2 with hl2 | hl2
      · obtain rfl : k = 1 := by omega
        obtain rfl := e1 rfl
        clear e0 e1 e2
        go_wp2_with (fail)
        go_roundg 0
        case measure => omega
        case rel => exact ⟨2, by omega, rfl, by go_num, by omega, by omega, fun _ => by go_num, rfl⟩
      · obtain rfl : k = 2 := by omega
        obtain rfl := e2 rfl
        clear e0 e1 e2
        go_wp2_with (fail)
        refine HG.out.mono ?_
        rintro e w1 ⟨A1, c1, rfl, ho1, hb1⟩
        have HO := Lib.hid (And.intro ho1 hb1)
        clear ho1 hb1 HG h0 h1 s0 s1
        go_wp2_with (fail)
        go_loopg [6, 27] 2 (fun gk s6 s27 wr => ∃ (k m c1 : Nat) (A1 : Option Addr), k ≤ 2 ∧ gk = 2 - k ∧ s27 = .int .i64 k ∧ s6 = .slice A1 m c1 ∧ m ≤ p + q ∧ wr.ownsRow w.heap.size 31 2 (.slice A1 m c1) m (hv (two a b k)) ∧ m = (two a b k).length ∧ Below w.heap.size w wr)
        case atStart => exact ⟨0, 0, c1, A1, by omega, rfl, rfl, rfl, by omega, HO.out.1, rfl, HO.out.2⟩
        case round =>
          clear HO
          obtain ⟨k, m, c2, A2, hk, rfl, rfl, rfl, hmpq, hown, hml, hb⟩ := hrel
          obtain ⟨sa, sb, h0, h1⟩ := HW.out wr hb
          have hsz := hb.size
          rcases Nat.lt_or_ge k 1 with hl1 | hl1
          · obtain rfl : k = 0 := by omega
            obtain rfl : m = 0 := hml
            try clear hml
            go_wp2_with (at_builtin
                         refine wpList_append_slk _ rfl (.tmp 31) (.tmp 32) _ rfl w.heap.size 31 2 16 Try.underlying22 hitE (by omega) (.slice A2 0 c2) 0 [] rfl hown _ A p c (hv a) rfl sa (by rw [hv_length, HPQ.out.1]) (hv_one _) (by omega) (by unfold maxLen; omega) hsz ?_
                         intro v4 w4 hown4 hg4 hat4
                         obtain ⟨A4, c4, rfl, hc4⟩ := own_slice hown4)
            have HR : Hid (w4.ownsRow w.heap.size 31 2 (.slice A4 p c4) p (hv (two a b 1)) ∧ p = (two a b 1).length ∧ Below w.heap.size w w4) := Lib.hid ⟨by simpa [two] using hown4, HPQ.out.1.symm, below_appendK hb hsz hown (Nat.le_refl _) hg4⟩
            go_roundg 1
            case measure => omega
            case rel => exact ⟨1, p, c4, A4, by omega, rfl, by go_num, by rfl, by omega, HR.out.1, HR.out.2.1, HR.out.2.2⟩
          · rcases Nat.lt_or_ge k 2 with hl2 | hl2
            · obtain rfl : k = 1 := by omega
              obtain rfl : m = p := hml.trans HPQ.out.1
              try clear hml
              go_wp2_with (at_builtin
                           refine wpList_append_slk _ rfl (.tmp 31) (.tmp 32) _ rfl w.heap.size 31 2 16 Try.underlying22 hitE (by omega) (.slice A2 m c2) m (hv a) rfl hown _ A' q c' (hv b) rfl sb (by rw [hv_length, HPQ.out.2]) (hv_one _) (by omega) (by unfold maxLen; omega) hsz ?_
                           intro v4 w4 hown4 hg4 hat4
                           obtain ⟨A4, c4, rfl, hc4⟩ := own_slice hown4)
              have HR : Hid (w4.ownsRow w.heap.size 31 2 (.slice A4 (m + q) c4) (m + q) (hv (two a b 2)) ∧ m + q = (two a b 2).length ∧ Below w.heap.size w w4) := Lib.hid ⟨by rw [show two a b 2 = a ++ b from rfl, hv_append]; exact hown4, by rw [show two a b 2 = a ++ b from rfl, List.length_append, HPQ.out.1, HPQ.out.2], below_appendK hb hsz hown (Nat.le_refl _) hg4⟩
              go_roundg 0
              case measure => omega
              case rel => exact ⟨2, m + q, c4, A4, by omega, rfl, by go_num, rfl, by omega, HR.out.1, HR.out.2.1, HR.out.2.2⟩
            · obtain rfl : k = 2 := by omega
              have HE : Hid (Own (a ++ b) w (.returned (.slice A2 m c2)) wr) := Lib.hid (Own.mk hown rfl hb)
              clear hown hml hb sa sb h0 h1
              go_wp2_with (fail)
              go_ret
              exact HE.out
end Go.Proofs.Ytbpeblmjnipakaa.hit
