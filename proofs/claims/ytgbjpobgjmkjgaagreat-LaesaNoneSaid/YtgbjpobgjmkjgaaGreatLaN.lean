/-
  Of a nil table.
-/
import Derived.Test.YtgbjpobgjmkjgaaGreatGFrn
import Derived.Test.YtgbjpobgjmkjgaaGreatChecked
import Derived.WalkSpells
namespace Go.Proofs.YtgbjpobgjmkjgaaGreat.tab
open Go.RowKit law bytes only flat
open fro (Ent ec Wk)
set_option linter.unusedVariables false
set_option maxRecDepth 100000

set_option maxHeartbeats 1600000
theorem len_nil (w : World) : Calls Tryz.prog 39 #[.pointer none] w fun e w' => e = .returned (.int .i64 0) ∧ Below w.heap.size w w' := by
  go_enter Tryz.func39, Tryz.ntmps39
  go_wp2_with (fail)
  go_ret
  exact ⟨rfl, Below.refl _ _⟩
theorem items_nil (w : World) : Calls Tryz.prog 40 #[.pointer none] w fun e w' => e = .returned (.slice none 0 0) ∧ Below w.heap.size w w' := by
  go_enter Tryz.func40, Tryz.ntmps40
  go_wp2_with (fail)
  refine bodyPost_ret (v := .slice none 0 0) (by simp [results, Tryz.results40, go_sem]) rfl ?_
  exact ⟨rfl, Below.refl _ _⟩
theorem pivots_nil (w : World) : Calls Tryz.prog 14 #[.pointer none] w fun e w' => e = .returned (.slice none 0 0) ∧ Below w.heap.size w w' := by
  go_enter Tryz.func14, Tryz.ntmps14
  go_wp2_with (fail)
  refine bodyPost_ret (v := .slice none 0 0) (by simp [results, Tryz.results14, go_sem]) rfl ?_
  exact ⟨rfl, Below.refl _ _⟩
theorem delete_nil (id : Int) (a : Option Addr) (w : World) : Calls Tryz.prog 36 #[.pointer none, .int .u64 id, .pointer a] w fun e w' => e = .returned (.int .i64 1) ∧ Below w.heap.size w w' := by
  go_enter Tryz.func36, Tryz.ntmps36
  go_wp2_with (fail)
  go_ret
  exact ⟨rfl, Below.refl _ _⟩
theorem bulk_nil (A : Option Addr) (n c : Nat) (a : Option Addr) (w : World) : Calls Tryz.prog 18 #[.pointer none, .slice A n c, .pointer a] w fun e w' => e = .returned (.int .i64 1) ∧ Below w.heap.size w w' := by
  go_enter Tryz.func18, Tryz.ntmps18
  go_wp2_with (fail)
  go_ret
  exact ⟨rfl, Below.refl _ _⟩
section
variable (id tag : Int) (A : Option Addr) (n c : Nat) (s : ByteArray)
theorem insert_nil (a : Option Addr) (w : World) : Calls Tryz.prog 20 #[.pointer none, .agg #[.int .u64 id, .int .i64 tag, .slice A n c, .string s], .pointer a] w fun e w' => e = .returned (.int .i64 1) ∧ Below w.heap.size w w' := by
  go_enter Tryz.func20, Tryz.ntmps20
  go_wp2_with (fail)
  go_ret
  exact ⟨rfl, (Below.refl _ _).alloc (Nat.le_refl _) _⟩
theorem range_nil (r : Int) (w : World) : Calls Tryz.prog 37 #[.pointer none, .agg #[.int .i64 tag, .slice A n c, .string s], .int .i64 r] w fun e w' => e = .returned (.slice none 0 0) ∧ Below w.heap.size w w' := by
  go_enter Tryz.func37, Tryz.ntmps37
  go_wp2_with (fail)
  refine bodyPost_ret (v := .slice none 0 0) (by simp [results, Tryz.results37, go_sem]) rfl ?_
  exact ⟨rfl, (Below.refl _ _).alloc (Nat.le_refl _) _⟩
theorem near_nil (r : Int) (w : World) : Calls Tryz.prog 38 #[.pointer none, .agg #[.int .i64 tag, .slice A n c, .string s], .int .i64 r] w fun e w' => e = .returned (.slice none 0 0) ∧ Below w.heap.size w w' := by
  go_enter Tryz.func38, Tryz.ntmps38
  go_wp2_with (fail)
  go_step3
  go_wp2_with (fail)
  try rw [Exit.noGoto_ret]
  refine bodyPost_ret (v := .slice none 0 0) (by simp [results, Tryz.results38, go_sem]) rfl ?_
  exact ⟨rfl, (Below.refl _ _).alloc (Nat.le_refl _) _⟩
/-- a walk that tells nothing -/
def WNone (w : World) (e : Ending) (w' : World) : Prop := ∃ wb, e = .returned (.pointer (some ⟨wb, 0, none⟩)) ∧ Below w.heap.size w w' ∧ Hid (Calls Tryz.prog 35 #[.pointer (some ⟨wb, 0, none⟩)] w' fun e2 w2 => e2 = .returned (.tuple #[.agg #[.int .u64 0, .int .i64 0], .bool false]) ∧ Below w.heap.size w w2)
theorem walk_nil (w : World) : Calls Tryz.prog 32 #[.pointer none, .agg #[.int .i64 tag, .slice A n c, .string s]] w (WNone w) := by
  have hb0 : Below w.heap.size w (w.alloc (.cells #[.int .i64 tag, .slice A n c, .string s] 35)) := (Below.refl _ _).alloc (Nat.le_refl _) _
  have HN : Hid (Calls Tryz.prog 66 #[.nilFunc, .slice none 0 0] (w.alloc (.cells #[.int .i64 tag, .slice A n c, .string s] 35)) (WNone w)) := Lib.hid (by
    refine (fro.new_any .nilFunc (.inl rfl) none [] 0 (w.alloc (.cells #[.int .i64 tag, .slice A n c, .string s] 35)) Sl.nil (by simp)).mono fun e w' ⟨wb, hb, T, d, he, h1, h2, h3⟩ => ⟨wb, he, hb0.trans (h3.mono hb0.size), Lib.hid ?_⟩
    have hd : d.toList = [] := List.perm_nil.1 h2
    refine (fro.next_any (s := ()) (fro.op_none .nilFunc _) h1 trivial (fun x hx => by rw [hd] at hx; simp at hx) (by rw [hd]; decide)).mono fun e2 w2 ⟨k, s1, l1, hr, _, hh⟩ => ?_
    have h4 := fro.Run.none hr (fun x hx => by rw [hd] at hx; simp at hx)
    obtain ⟨-, rfl⟩ := h4
    rcases hh with ⟨x, rest, -, -, -, hp, -⟩ | ⟨-, he2, d', -, T', -, hO, -⟩
    · rw [hd] at hp
      exact absurd hp.length_eq (by simp)
    · exact ⟨he2, (hb0.trans (h3.mono hb0.size)).trans (hO.below (Nat.le_trans hb0.size h3.size) fun i e => by
        rcases e with e | e
        · exact Nat.le_trans hb0.size (h1.low i e).1
        · exact e.elim)⟩)
  go_enter Tryz.func32, Tryz.ntmps32
  go_wp2_with (fail)
  refine HN.out.mono ?_
  rintro e w1 h
  have h2 := h
  obtain ⟨wb, rfl, -⟩ := h2
  have HW := Lib.hid h
  clear h HN hb0
  go_wp2_with (fail)
  go_ret
  exact HW.out
end
def zIm : Array Value := #[.slice none 0 0, .slice none 0 0, .slice none 0 0, .int .i64 0, .slice none 0 0, .slice none 0 0]
theorem image_nil (w : World) : Calls Tryz.prog 16 #[.pointer none] w fun e w' => e = .returned (.agg #[.slice none 0 0, .slice none 0 0, .slice none 0 0, .int .i64 0, .slice none 0 0, .slice none 0 0]) ∧ Below w.heap.size w w' := by
  have hk := Blk.new w 50 zIm
  have q0 := hk.cell 0
  have q1 := hk.cell 1
  have q2 := hk.cell 2
  have q3 := hk.cell 3
  have q4 := hk.cell 4
  have q5 := hk.cell 5
  have qf := hk.frozen
  unfold zIm at q0 q1 q2 q3 q4 q5 qf
  simp only [List.getElem?_toArray, List.getElem?_cons_succ, List.getElem?_cons_zero] at q0 q1 q2 q3 q4 q5
  clear hk
  go_enter Tryz.func16, Tryz.ntmps16
  go_wp2_with (fail)
  refine bodyPost_ret (v := .agg #[.slice none 0 0, .slice none 0 0, .slice none 0 0, .int .i64 0, .slice none 0 0, .slice none 0 0]) (by simp [results, Tryz.results16, go_sem, q0, q1, q2, q3, q4, q5]) rfl ?_
  exact ⟨rfl, (Below.refl _ _).alloc (Nat.le_refl _) _⟩
end Go.Proofs.YtgbjpobgjmkjgaaGreat.tab
