/-
  Of a nil tree.
-/
import Derived.Test.YtpmjpolnoaigoaaGreatGFrn
import Derived.Test.YtpmjpolnoaigoaaGreatClo
import Derived.Test.YtpmjpolnoaigoaaGreatGItm
import Derived.Test.YtpmjpolnoaigoaaGreatChecked
import Derived.WalkSpells
namespace Go.Proofs.YtpmjpolnoaigoaaGreat.bk
open Go.RowKit law bytes only flat nums
open fro (Ent ec Wk)
set_option linter.unusedVariables false
set_option maxRecDepth 100000

set_option maxHeartbeats 1600000
theorem len_nil (w : World) : Calls Tryz.prog 44 #[.pointer none] w fun e w' => e = .returned (.int .i64 0) ∧ Below w.heap.size w w' := by
  go_enter Tryz.func44, Tryz.ntmps44
  go_wp2_with (fail)
  go_ret
  exact ⟨rfl, Below.refl _ _⟩
theorem items_nil (w : World) : Calls Tryz.prog 45 #[.pointer none] w fun e w' => e = .returned (.slice none 0 0) ∧ Below w.heap.size w w' := by
  go_enter Tryz.func45, Tryz.ntmps45
  go_wp2_with (fail)
  refine bodyPost_ret (v := .slice none 0 0) (by simp [results, Tryz.results45, go_sem]) rfl ?_
  exact ⟨rfl, Below.refl _ _⟩
theorem gone_nil (w : World) : Calls Tryz.prog 29 #[.pointer none] w fun e w' => e = .returned (.int .i64 0) ∧ Below w.heap.size w w' := by
  go_enter Tryz.func29, Tryz.ntmps29
  go_wp2_with (fail)
  go_ret
  exact ⟨rfl, Below.refl _ _⟩
theorem depth_nil (w : World) : Calls Tryz.prog 46 #[.pointer none] w fun e w' => e = .returned (.int .i64 0) ∧ Below w.heap.size w w' := by
  go_enter Tryz.func46, Tryz.ntmps46
  go_wp2_with (fail)
  go_ret
  exact ⟨rfl, Below.refl _ _⟩
theorem delete_nil (id : Int) (a : Option Addr) (w : World) : Calls Tryz.prog 41 #[.pointer none, .int .u64 id, .pointer a] w fun e w' => e = .returned (.int .i64 1) ∧ Below w.heap.size w w' := by
  go_enter Tryz.func41, Tryz.ntmps41
  go_wp2_with (fail)
  go_ret
  exact ⟨rfl, Below.refl _ _⟩
theorem bulk_nil (A : Option Addr) (n c : Nat) (a : Option Addr) (w : World) : Calls Tryz.prog 42 #[.pointer none, .slice A n c, .pointer a] w fun e w' => e = .returned (.int .i64 1) ∧ Below w.heap.size w w' := by
  go_enter Tryz.func42, Tryz.ntmps42
  go_wp2_with (fail)
  go_ret
  exact ⟨rfl, Below.refl _ _⟩
theorem bare_nil (w : World) : Calls Tryz.prog 90 #[.pointer none] w fun e w' => e = .returned (.bool true) ∧ w = w' := by
  go_enter Tryz.func90, Tryz.ntmps90
  go_wp2_with (fail)
  go_ret
  exact ⟨rfl, rfl⟩
section
variable (id tag : Int) (A : Option Addr) (n c : Nat) (s : ByteArray)
theorem insert_nil (a : Option Addr) (w : World) : Calls Tryz.prog 40 #[.pointer none, .agg #[.int .u64 id, .int .i64 tag, .slice A n c, .string s], .pointer a] w fun e w' => e = .returned (.int .i64 1) ∧ Below w.heap.size w w' := by
  go_enter Tryz.func40, Tryz.ntmps40
  go_wp2_with (fail)
  go_ret
  exact ⟨rfl, (Below.refl _ _).alloc (Nat.le_refl _) _⟩
theorem range_nil (r : Int) (w : World) : Calls Tryz.prog 37 #[.pointer none, .agg #[.int .i64 tag, .slice A n c, .string s], .int .i64 r] w fun e w' => e = .returned (.slice none 0 0) ∧ Below w.heap.size w w' := by
  have HB := Lib.hid bare_nil
  go_enter Tryz.func37, Tryz.ntmps37
  go_wp2_with (fail)
  go_step3
  go_wp2_with (fail)
  refine (HB.out _).mono ?_
  rintro e w1 ⟨rfl, rfl⟩
  go_wp2_with (fail)
  try rw [Exit.noGoto_ret]
  refine bodyPost_ret (v := .slice none 0 0) (by simp [results, Tryz.results37, go_sem]) rfl ?_
  exact ⟨rfl, (((Below.refl _ _).alloc (Nat.le_refl _) _).alloc (by simp) _).alloc (by simp; omega) _⟩
/-- a walk of nothing -/
def WEmp (w : World) (e : Ending) (w' : World) : Prop := ∃ base wb hb T d, e = .returned (.pointer (some ⟨wb, 0, none⟩)) ∧ Wk w' base wb hb T .nilFunc d 0 ∧ d.toList = [] ∧ w.heap.size ≤ base ∧ Below w.heap.size w w'
theorem walk_emp (w : World) : Calls Tryz.prog 89 #[.pointer none, .agg #[.int .i64 tag, .slice A n c, .string s]] w (WEmp w) := by
  have hb0 : Below w.heap.size w (w.alloc (.cells #[.int .i64 tag, .slice A n c, .string s] 35)) := (Below.refl _ _).alloc (Nat.le_refl _) _
  have HN : Hid (Calls Tryz.prog 73 #[.nilFunc, .slice none 0 0] (w.alloc (.cells #[.int .i64 tag, .slice A n c, .string s] 35)) (WEmp w)) := Lib.hid (by
    refine (fro.new_any .nilFunc (.inl rfl) none [] 0 (w.alloc (.cells #[.int .i64 tag, .slice A n c, .string s] 35)) Sl.nil (by simp)).mono fun e w' ⟨wb, hb, T, d, he, h1, h2, h3⟩ => ⟨_, wb, hb, T, d, he, h1, List.perm_nil.1 h2, hb0.size, hb0.trans (h3.mono hb0.size)⟩)
  have HB := Lib.hid bare_nil
  go_enter Tryz.func89, Tryz.ntmps89
  go_wp2_with (fail)
  refine (HB.out _).mono ?_
  rintro e w1 ⟨rfl, rfl⟩
  go_wp2_with (fail)
  refine HN.out.mono ?_
  rintro e w1 h
  have h2 := h
  obtain ⟨base, wb, hb, T, d, rfl, -⟩ := h2
  have HW := Lib.hid h
  clear h HN hb0
  go_wp2_with (fail)
  go_ret
  exact HW.out
theorem take_emp {w w1 : World} {e : Ending} (h : WEmp w e w1) (k : Int) : ∃ wb, e = .returned (.pointer (some ⟨wb, 0, none⟩)) ∧ Calls Tryz.prog 22 #[.pointer (some ⟨wb, 0, none⟩), .int .i64 k] w1 fun e2 w2 => (∃ A c, e2 = .returned (.slice A 0 c)) ∧ Below w.heap.size w w2 := by
  obtain ⟨base, wb, hb, T, d, he, h1, hd, hbs, hbl⟩ := h
  refine ⟨wb, he, (fro.take_any (s := ()) (fro.op_none .nilFunc _) h1 trivial (fun x hx => by rw [hd] at hx; simp at hx) (by rw [hd]; decide) k).mono fun e2 w2 hT => ?_⟩
  obtain ⟨t, q, s1, l1, j, s2, l2, d2, A, c, T', he2, -, hT, -, -, -, -, -, -, hO, -⟩ := hT
  rw [hd] at hT
  have hm := hT.many (fro.op_none .nilFunc base).pos (fro.op_none .nilFunc base).next (fro.op_none .nilFunc base).less (fun x hx => by simp at hx)
  have h0 : fro.wsum (fun _ : Int => 1) [] = 0 := by decide
  rw [h0] at hm
  have ht : t.length = 0 := by omega
  rw [ht] at he2
  refine ⟨⟨A, c, he2⟩, hbl.trans (hO.below hbl.size fun i e => ?_)⟩
  rcases e with e | e
  · exact Nat.le_trans hbs (h1.low i e).1
  · exact e.elim
theorem near_nil (r : Int) (w : World) : Calls Tryz.prog 43 #[.pointer none, .agg #[.int .i64 tag, .slice A n c, .string s], .int .i64 r] w fun e w' => (∃ A c, e = .returned (.slice A 0 c)) ∧ Below w.heap.size w w' := by
  have hb0 : Below w.heap.size w (w.alloc (.cells #[.int .i64 tag, .slice A n c, .string s] 35)) := (Below.refl _ _).alloc (Nat.le_refl _) _
  have HW := Lib.hid (walk_emp tag A n c s (w.alloc (.cells #[.int .i64 tag, .slice A n c, .string s] 35)))
  have HB0 := Lib.hid hb0
  clear hb0
  go_enter Tryz.func43, Tryz.ntmps43
  go_wp2_with (fail)
  refine HW.out.mono ?_
  rintro e w1 h
  obtain ⟨wb, rfl, hT⟩ := take_emp h r
  have HT := Lib.hid hT
  clear h hT HW
  go_wp2_with (fail)
  refine HT.out.mono ?_
  rintro e w2 ⟨⟨A2, c2, rfl⟩, hb⟩
  have HE := Lib.hid (HB0.out.trans (hb.mono HB0.out.size))
  clear hb HT
  go_wp2_with (fail)
  refine bodyPost_ret (v := .slice A2 0 c2) (by simp [results, Tryz.results43, go_sem]) rfl ?_
  exact ⟨⟨A2, c2, rfl⟩, HE.out⟩
/-- a walk that tells nothing -/
def WNone (w : World) (e : Ending) (w' : World) : Prop := ∃ wb, e = .returned (.pointer (some ⟨wb, 0, none⟩)) ∧ Below w.heap.size w w' ∧ Hid (Calls Tryz.prog 39 #[.pointer (some ⟨wb, 0, none⟩)] w' fun e2 w2 => e2 = .returned (.tuple #[.agg #[.int .u64 0, .int .i64 0], .bool false]) ∧ Below w.heap.size w w2)
theorem next_emp {w w1 w0 : World} {e : Ending} (hb0 : Below w0.heap.size w0 w) (h : WEmp w e w1) : WNone w0 e w1 := by
  obtain ⟨base, wb, hb, T, d, he, h1, hd, hbs, hbl⟩ := h
  have hbw := hb0.trans (hbl.mono hb0.size)
  refine ⟨wb, he, hbw, Lib.hid ?_⟩
  refine (fro.next_any (s := ()) (fro.op_none .nilFunc _) h1 trivial (fun x hx => by rw [hd] at hx; simp at hx) (by rw [hd]; decide)).mono fun e2 w2 ⟨k, s1, l1, hr, _, hh⟩ => ?_
  have h4 := fro.Run.none hr (fun x hx => by rw [hd] at hx; simp at hx)
  obtain ⟨-, rfl⟩ := h4
  rcases hh with ⟨x, rest, -, -, -, hp, -⟩ | ⟨-, he2, d', -, T', -, hO, -⟩
  · rw [hd] at hp
    exact absurd hp.length_eq (by simp)
  · exact ⟨he2, hbw.trans (hO.below hbw.size fun i e => by
      rcases e with e | e
      · exact Nat.le_trans (Nat.le_trans hb0.size hbs) (h1.low i e).1
      · exact e.elim)⟩
end
open ord obj in
theorem Walk_nil (A : Option Addr) (c : Nat) (x : Thing) (w : World) (hx : store.Fit x) (hs : Sl w w.heap.size A (iv x.vec)) : Calls Tryz.prog 36 #[.pointer none, .agg #[.int .i64 x.tag, .slice A x.vec.length c, .string x.str]] w (WNone w) := by
  obtain ⟨V, hV⟩ : ∃ V, V = w.alloc (.cells #[.int .i64 x.tag, .slice A x.vec.length c, .string x.str] 35) := ⟨_, rfl⟩
  have hb0 : Below w.heap.size w V := by rw [hV]; exact (Below.refl _ _).alloc (Nat.le_refl _) _
  have HC := Lib.hid (cloneO_any A c w.heap.size x V hx.1 hx.2 hb0.size (hs.below hb0))
  have HB0 := Lib.hid hb0
  have HV := Lib.hid hV
  clear hb0 hV hs
  go_enter Tryz.func36, Tryz.ntmps36
  go_wp2_with (fail)
  rw [← HV.out]
  refine HC.out.mono ?_
  rintro e w1 ⟨A2, c2, rfl, -, hb⟩
  have HW := Lib.hid (walk_emp x.tag A2 x.vec.length c2 x.str w1)
  have HB1 := Lib.hid (HB0.out.trans (hb.mono HB0.out.size))
  clear hb HC
  go_wp2_with (fail)
  refine HW.out.mono ?_
  rintro e w2 h
  have h2 := next_emp HB1.out h
  have h3 := h2
  obtain ⟨wb, rfl, -⟩ := h3
  have HE := Lib.hid h2
  clear h h2
  go_wp2_with (fail)
  go_ret
  exact HE.out
def zIm : Array Value := #[.slice none 0 0, .slice none 0 0, .slice none 0 0, .int .i64 0, .slice none 0 0, .slice none 0 0]
theorem image_nil (w : World) : Calls Tryz.prog 27 #[.pointer none] w fun e w' => e = .returned (.agg #[.slice none 0 0, .slice none 0 0, .slice none 0 0, .int .i64 0, .slice none 0 0, .slice none 0 0]) ∧ Below w.heap.size w w' := by
  have hk := Blk.new w 50 zIm
  have q0 := hk.cell 0
  have q1 := hk.cell 1
  have q2 := hk.cell 2
  have q3 := hk.cell 3
  have q4 := hk.cell 4
  have q5 := hk.cell 5
  have qf := hk.frozen
  unfold zIm at q0 q1 q2 q3 q4 q5 qf
  simp only [List.getElem?_toArray, List.getElem?_cons_succ, List.getElem?_cons_zero] at q0 q1 q2 q3 q4 q5
  clear hk
  go_enter Tryz.func27, Tryz.ntmps27
  go_wp2_with (fail)
  refine bodyPost_ret (v := .agg #[.slice none 0 0, .slice none 0 0, .slice none 0 0, .int .i64 0, .slice none 0 0, .slice none 0 0]) (by simp [results, Tryz.results27, go_sem, q0, q1, q2, q3, q4, q5]) rfl ?_
  exact ⟨rfl, (Below.refl _ _).alloc (Nat.le_refl _) _⟩
end Go.Proofs.YtpmjpolnoaigoaaGreat.bk
