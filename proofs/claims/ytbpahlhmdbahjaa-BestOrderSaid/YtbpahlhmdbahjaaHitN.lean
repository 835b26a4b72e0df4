/-
  The contracts of the document's Sort of hits, of hits.Ids, hits.Find and what it calls.
-/
import Derived.Test.YtbpahlhmdbahjaaHitR
namespace Go.Proofs.Ytbpahlhmdbahjaa.hit
open Go.RowKit law bytes only flat Go.Sort Go.Shelf
set_option linter.unusedVariables false

set_option maxRecDepth 100000 in
set_option maxHeartbeats 3200000 in
theorem rsort_any (A : Option Addr) (l : List Hit) (c B : Nat) (w : World) (hm : l.length * 16 ≤ 140737488355328) (hB : B ≤ w.heap.size) (hs : Sl w B A (hv l)) :
    Calls Try.prog 20 #[.slice A l.length c] w (Own (sortH l) w) := by
  have HS := Lib.hid hs
  clear hs
  go_enter Try.func20, Try.ntmps20
  go_wp2_with (fail)
  go_loopg [3, 4] l.length (fun gk s3 s4 wr => ∃ (k c' : Nat) (A' : Option Addr), gk = l.length - k ∧ k ≤ l.length ∧ s3 = .slice A' k c' ∧ s4 = .int .i64 k ∧ wr.ownsRow w.heap.size 30 2 (.slice A' k c') k (hv (sortH (l.take k))) ∧ Below w.heap.size w wr)
  case atStart => exact ⟨0, 0, none, rfl, Nat.zero_le _, rfl, rfl, by rw [List.take_zero]; exact World.ownsRow_nil _ _ _ _, Below.refl _ _⟩
  case round =>
    obtain ⟨k, c', A', rfl, hk, rfl, rfl, hown, hb⟩ := hrel
    have hlk : (sortH (l.take k)).length = k := by rw [sortH_length, List.length_take]; omega
    by_cases hlt : k < l.length
    · obtain ⟨b, o, rfl, hb1, hc0, hc1⟩ := Sl.hitAt ((HS.out.more hB).below hb) hlt
      have h := put_any A' c' (sortH (l.take k)) l[k] wr (by rw [hlk]; omega) (Sl.of_ownK hown)
      rw [hlk, ← sortH_take l k hlt] at h
      have hlk2 : (sortH (l.take (k + 1))).length = k + 1 := by rw [sortH_length, List.length_take]; omega
      have HP : Hid (Calls Try.prog 30 #[.slice A' k c', .agg #[.int .u64 l[k].1, .int .i64 l[k].2]] wr fun e w' => ∃ A2 c2, e = .returned (.slice A2 (k + 1) c2) ∧ w'.ownsRow w.heap.size 30 2 (.slice A2 (k + 1) c2) (k + 1) (hv (sortH (l.take (k + 1)))) ∧ Below w.heap.size w w') :=
        Lib.hid (h.mono fun e w' ⟨A2, c2, he, ho, hb2⟩ => ⟨A2, c2, by rw [he, hlk2], by rw [hlk2] at ho; exact own_base ho hb.size, hb.trans (hb2.mono hb.size)⟩)
      obtain ⟨⟨x, y⟩, hx⟩ : ∃ x, l[k] = x := ⟨_, rfl⟩
      rw [hx] at hc0 hc1 HP
      dsimp only at hc0 hc1 HP
      have i1 : (k : Int) < (l.length : Int) := by omega
      clear h hlk hlk2 hx hown hb
      go_wp2_with (fail)
      refine HP.out.mono ?_
      rintro e w2 ⟨A2, c2, rfl, ho, hb2⟩
      go_wp2_with (fail)
      go_roundg (l.length - (k + 1))
      case measure => omega
      case rel => exact ⟨k + 1, c2, A2, rfl, by omega, rfl, by go_num, ho, hb2⟩
    · obtain rfl : k = l.length := by omega
      have i1 : ¬ (l.length : Int) < (l.length : Int) := by omega
      have HE : Hid (Own (sortH l) w (.returned (.slice A' l.length c')) wr) := Lib.hid (Own.mk hown (by rw [List.take_length]) hb)
      clear hown hb hlk
      go_wp2_with (fail)
      go_ret
      exact HE.out

/-! ### numbers -/
def idv (l : List Hit) : List Value := l.map fun x => .int .u64 x.1
theorem idv_length (l : List Hit) : (idv l).length = l.length := by simp [idv]
theorem idv_take (l : List Hit) (k : Nat) (hk : k < l.length) : idv (l.take (k + 1)) = idv (l.take k) ++ [.int .u64 l[k].1] := by
  unfold idv
  rw [List.take_succ_eq_append_getElem hk, List.map_append]
  rfl
theorem u64E : Elem Try.prog 28 (.int .u64 0) 8 := elem_mk (by kernel_rfl) rfl
/-- a row of the hits' numbers, and what there was is as it was -/
def IdRow (l : List Hit) (w : World) (e : Ending) (w' : World) : Prop := ∃ A c, e = .returned (.slice A l.length c) ∧ Sl w' w'.heap.size A (idv l) ∧ Below w.heap.size w w'
/-! ### the first one of a number -/
theorem find_none {p : Hit → Bool} {l : List Hit} {k : Nat} (h : (l.take k).find? p = none) (hk : k < l.length) (hp : p l[k] = false) : (l.take (k + 1)).find? p = none := by
  rw [List.take_succ_eq_append_getElem hk, List.find?_append, h, Option.none_or, List.find?_cons, hp]
  rfl
theorem find_here {p : Hit → Bool} {l : List Hit} {k : Nat} (h : (l.take k).find? p = none) (hk : k < l.length) (hp : p l[k] = true) : l.find? p = some l[k] := by
  have e : l = l.take k ++ l[k] :: l.drop (k + 1) := by rw [← List.drop_eq_getElem_cons hk, List.take_append_drop]
  have e2 : (l.take k ++ l[k] :: l.drop (k + 1)).find? p = some l[k] := by rw [List.find?_append, h, Option.none_or, List.find?_cons, hp]
  rwa [← e] at e2
theorem find_take {p : Hit → Bool} {l : List Hit} {k : Nat} {x : Hit} (h : (l.take k).find? p = some x) (hk : k < l.length) : (l.take (k + 1)).find? p = some x := by
  rw [List.take_succ_eq_append_getElem hk, List.find?_append, h]
  rfl
theorem find_first {p : Hit → Bool} {l : List Hit} {k : Nat} (h : (l.take k).find? p = none) (hk : k < l.length) (hp : p l[k] = true) : (l.take (k + 1)).find? p = some l[k] := by
  rw [List.take_succ_eq_append_getElem hk, List.find?_append, h, Option.none_or, List.find?_cons, hp]
/-- is it of this number? -/
def isId (id : Int) (x : Hit) : Bool := x.1 == id
/-- where the first one of a number stands -/
def Place (id : Int) (l : List Hit) (w : World) (e : Ending) (w' : World) : Prop :=
  ∃ r : Int, e = .returned (.int .i64 r) ∧ ((r = -1 ∧ l.find? (isId id) = none) ∨ ∃ i : Nat, ∃ h : i < l.length, r = i ∧ l.find? (isId id) = some l[i]) ∧ Below w.heap.size w w'
/-- a hit, or none -/
def opt : Option Hit → Hit × Bool
  | some x => (x, true)
  | none => ((0, 0), false)
/-- the first one of a number, if it is there -/
def Found (id : Int) (l : List Hit) (w : World) (e : Ending) (w' : World) : Prop :=
  ∃ x ok, e = .returned (.tuple #[.agg #[.int .u64 x.1, .int .i64 x.2], .bool ok]) ∧ opt (l.find? (isId id)) = (x, ok) ∧ Below w.heap.size w w'
end Go.Proofs.Ytbpahlhmdbahjaa.hit
