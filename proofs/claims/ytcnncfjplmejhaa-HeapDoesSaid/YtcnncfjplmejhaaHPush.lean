/-
  A heap of ints in memory; the contracts of New, Push, Len, Top.
-/
import Derived.Test.YtcnncfjplmejhaaHRise
namespace Go.Proofs.Ytcnncfjplmejhaa.heap
open Go.RowKit law bytes only heapM Go.Sort Go.Shelf
set_option linter.unusedVariables false

theorem intE : Elem Try.prog 3 (.int .i64 0) 8 := elem_mk (by kernel_rfl) rfl
/-- a heap at block hb: its order, its row of ints -/
def Hp (w : World) (base hb : Nat) (v : Value) (K : Nat) (d : Array Int) : Prop :=
  Blk w hb 50 #[.func (.func K) #[] #[], v] ∧ w.ownsRow base 3 1 v d.size (iv d) ∧ v.ownBlock ≠ some hb
/-- what a heap's methods may turn -/
def Mine (hb : Nat) (v : Value) (i : Nat) : Prop := i = hb ∨ v.ownBlock = some i
/-- where a heap's row lies behind a method: as before, or in new memory -/
def Moved (w : World) (v v' : Value) : Prop := v'.ownBlock = v.ownBlock ∨ ∃ g, v'.ownBlock = some g ∧ w.heap.size ≤ g
section
variable {w w' : World} {base hb : Nat} {v : Value} {K : Nat} {d : Array Int}
theorem Hp.lt (h : Hp w base hb v K d) : hb < w.heap.size := h.1.lt
theorem Hp.below {B : Nat} (h : Hp w base hb v K d) (k : Below B w w') (hB : w.heap.size ≤ B) : Hp w' base hb v K d := ⟨h.1.below k (Nat.lt_of_lt_of_le h.1.lt hB), own_below h.2.1 k hB, h.2.2⟩
theorem Hp.only {S : Nat → Prop} (h : Hp w base hb v K d) (k : Only S w w') (hS : ∀ i, Mine hb v i → ¬ S i) : Hp w' base hb v K d :=
  ⟨Blk.only h.1 k (hS hb (.inl rfl)), own_only h.2.1 k fun g e => hS g (.inr e), h.2.2⟩
theorem Hp.form (h : Hp w base hb v K d) (h0 : 0 < d.size) : ∃ g c, v = .slice (some ⟨g, 0, none⟩) d.size c ∧ Row w base g c d ∧ hb ≠ g := by
  obtain ⟨g, c, rfl, _⟩ := own_form h.2.1 h0
  exact ⟨g, c, rfl, h.2.1, fun e => h.2.2 (by rw [e]; rfl)⟩
theorem Hp.slice (h : Hp w base hb v K d) : ∃ A c, v = .slice A d.size c := by
  obtain ⟨A, c, e, _⟩ := own_slice h.2.1
  exact ⟨A, c, e⟩
end
theorem new_int (K base : Nat) (w : World) (hB : base ≤ w.heap.size) : Calls Try.prog 6 #[.func (.func K) #[] #[]] w fun e w' =>
    e = .returned (.pointer (some ⟨w.heap.size, 0, none⟩)) ∧ Below w.heap.size w w' ∧ Hp w' base w.heap.size (.slice none 0 0) K #[] := by
  have hb : Below w.heap.size w (w.alloc (.cells #[.func (.func K) #[] #[], .slice none 0 0] 50)) := (Below.refl _ _).alloc (Nat.le_refl _) _
  have hm : Hp (w.alloc (.cells #[.func (.func K) #[] #[], .slice none 0 0] 50)) base w.heap.size (.slice none 0 0) K #[] := ⟨Blk.new _ _ _, World.ownsRow_nil _ _ _ _, by simp [Value.ownBlock]⟩
  have HM := Lib.hid hm
  have HB := Lib.hid hb
  clear hm hb
  go_enter Try.func6, Try.ntmps6
  go_wp2_with (fail)
  go_ret
  exact ⟨rfl, HB.out, HM.out⟩
theorem len_int {w : World} {base hb : Nat} {v : Value} {K : Nat} {d : Array Int} (h : Hp w base hb v K d) : Calls Try.prog 12 #[.pointer (some ⟨hb, 0, none⟩)] w fun e w' => e = .returned (.int .i64 d.size) ∧ w = w' := by
  obtain ⟨A, c, rfl⟩ := h.slice
  have c1 : w.cell? ⟨hb, 1, none⟩ = some (.slice A d.size c) := h.1.cell 1
  clear h
  go_enter Try.func12, Try.ntmps12
  go_wp2_with (fail)
  go_ret
  exact ⟨rfl, rfl⟩
theorem len_int_none (w : World) : Calls Try.prog 12 #[.pointer none] w fun e w' => e = .returned (.int .i64 0) ∧ w = w' := by
  go_enter Try.func12, Try.ntmps12
  go_wp2_with (fail)
  go_ret
  exact ⟨rfl, rfl⟩
theorem top_int_none (w : World) : Calls Try.prog 11 #[.pointer none] w fun e w' => e = .returned (.tuple #[.int .i64 0, .bool false]) ∧ w = w' := by
  go_enter Try.func11, Try.ntmps11
  go_wp2_with (go_at_call 12; (with_reducible refine (len_int_none _).mono ?_); rintro e w' ⟨rfl, rfl⟩)
  refine bodyPost_ret (v := .tuple #[.int .i64 0, .bool false]) (by simp [results, Try.results11, go_sem]) rfl ?_
  exact ⟨rfl, rfl⟩
/-- what Top tells -/
def topv (d : Array Int) : Value := if d.size = 0 then .tuple #[.int .i64 0, .bool false] else .tuple #[.int .i64 d[0]!, .bool true]
theorem top_int {w : World} {base hb : Nat} {v : Value} {K : Nat} {d : Array Int} (h : Hp w base hb v K d) : Calls Try.prog 11 #[.pointer (some ⟨hb, 0, none⟩)] w fun e w' => e = .returned (topv d) ∧ w = w' := by
  have HL := Lib.hid (len_int h)
  unfold topv
  by_cases h0 : d.size = 0
  · rw [if_pos h0]
    rw [h0] at HL
    clear h
    go_enter Try.func11, Try.ntmps11
    go_wp2_with (go_at_call 12; (with_reducible refine HL.out.mono ?_); rintro e w' ⟨rfl, rfl⟩)
    refine bodyPost_ret (v := .tuple #[.int .i64 0, .bool false]) (by simp [results, Try.results11, go_sem]) rfl ?_
    exact ⟨rfl, rfl⟩
  · rw [if_neg h0]
    obtain ⟨g, c, rfl, hr, -⟩ := h.form (by omega)
    have c1 : w.cell? ⟨hb, 1, none⟩ = some (.slice (some ⟨g, 0, none⟩) d.size c) := h.1.cell 1
    have q0 := hr.cell 0 (by omega)
    have i0 : ((d.size : Int) == 0) = false := by rw [beq_eq_false_iff_ne]; omega
    have i1 : (0 : Int) < (d.size : Int) := by omega
    generalize d[0]! = x at q0 ⊢
    clear h hr
    go_enter Try.func11, Try.ntmps11
    go_wp2_with (go_at_call 12; (with_reducible refine HL.out.mono ?_); rintro e w' ⟨rfl, rfl⟩)
    refine bodyPost_ret (v := .tuple #[.int .i64 x, .bool true]) (by simp [results, Try.results11, go_sem]) rfl ?_
    exact ⟨rfl, rfl⟩
theorem push_int_none (x : Int) (w : World) : Calls Try.prog 9 #[.pointer none, .int .i64 x] w fun e w' => e = .returned (.tuple #[]) ∧ w = w' := by
  go_enter Try.func9, Try.ntmps9
  go_wp2_with (fail)
  refine bodyPost_ret (results_none rfl _ _ _) rfl ?_
  exact ⟨rfl, rfl⟩
theorem iv_push (d : Array Int) (x : Int) : iv (d.push x) = iv d ++ [.int .i64 x] := by simp [iv]
set_option maxRecDepth 100000 in
set_option maxHeartbeats 1600000 in
theorem push_int {base hb : Nat} {v : Value} {K : Nat} {d : Array Int} (cf : Int → Int → Int) (hK : Enters Try.prog K) (hO : Ordr K iE cf) (hS : SWO (lf cf)) (x : Int) (w : World) (h : Hp w base hb v K d) (hH : Heap (lf cf) d) (hB : base ≤ w.heap.size) (hsz : (d.size + 1) * 8 ≤ 140737488355328) :
    Calls Try.prog 9 #[.pointer (some ⟨hb, 0, none⟩), .int .i64 x] w fun e w' =>
      e = .returned (.tuple #[]) ∧ Only (Mine hb v) w w' ∧ ∃ v' d', Hp w' base hb v' K d' ∧ Heap (lf cf) d' ∧ d'.toList.Perm (x :: d.toList) ∧ Moved w v v' := by
  have ep : (d.push x).size = d.size + 1 := by simp
  have hR := fun g c W v => rise_int K hb v cf hK hO hS base g c (d.push x) W
  rw [ep] at hR
  have hU := Up.push hH x
  have hpu : (d.push x).toList.Perm (x :: d.toList) := by
    rw [Array.toList_push]
    exact List.perm_append_comm (l₁ := d.toList) (l₂ := [x])
  have hlt := h.lt
  obtain ⟨hs, hown, hne⟩ := h
  have c1 : w.cell? ⟨hb, 1, none⟩ = some v := hs.cell 1
  have hs1 := Blk.alloc hs (.cells #[.int .i64 x] 3)
  have c2 : (w.alloc (.cells #[.int .i64 x] 3)).cell? ⟨hb, 1, none⟩ = some v := hs1.cell 1
  have HR := Lib.hid hR
  have HS := Lib.hid hs1
  clear hR hs hs1 hK hO
  go_enter Try.func9, Try.ntmps9
  go_wp2_with (first
    | (at_builtin
       refine wpList_append_sl _ rfl (.tmp 10) (.tmp 12) _ rfl base 3 _ 8 Try.underlying26 intE v d.size (iv d) rfl (hown.alloc _) _ _ 1 1 [.int .i64 x] rfl (Sl.one w _ _) rfl (by simp [Value.oneCell']) (by omega) (by unfold maxLen; omega) (by simp; omega) ?_
       intro v1 w1 hown1 hg1 hat1
       obtain ⟨g1, k1, rfl, hgb, hgl, hk1⟩ := own_form hown1 (by omega)
       have hrow : Row w1 base g1 k1 (d.push x) := by rw [← iv_push, ← ep] at hown1; exact hown1
       have hbg : hb ≠ g1 := fun e => by
         simp only [Value.ownBlock] at hat1
         rcases hat1 with e1 | e1
         · exact hne (by rw [e]; exact e1.symm)
         · simp at e1; omega
       have hblk1 := HS.out.grown hg1 (fun e => hne e.symm)
       have hd1 : w1.cell? ⟨hb, 1, none⟩ = some v := hblk1.cell 1
       have hf1 : w1.frozen? ⟨hb, 1, none⟩ = false := hblk1.frozen 1))
  clear c1 c2 hd1 hf1
  have hs2 := hblk1.set_ 1 (.slice (some ⟨g1, 0, none⟩) (d.size + 1) k1)
  have hrow2 : Row (w1.setCell ⟨hb, 1, none⟩ (.slice (some ⟨g1, 0, none⟩) (d.size + 1) k1)) base g1 k1 (d.push x) := hrow.only (S := fun i => i = hb) (Only.setCell (S := fun i => i = hb) (p := ⟨hb, 1, none⟩) (Only.refl _ _) (.inl rfl) _) (fun e => hbg e.symm)
  have d1 : (w1.setCell ⟨hb, 1, none⟩ (.slice (some ⟨g1, 0, none⟩) (d.size + 1) k1)).cell? ⟨hb, 1, none⟩ = some (.slice (some ⟨g1, 0, none⟩) (d.size + 1) k1) := hs2.cell 1
  have h1 : Only (Mine hb v) w (w1.setCell ⟨hb, 1, none⟩ (.slice (some ⟨g1, 0, none⟩) (d.size + 1) k1)) :=
    Only.setCell (p := ⟨hb, 1, none⟩) ((Only.alloc (Only.refl _ _) _).trans (Only.of_grown hg1 (S := fun i => v.ownBlock = some i) fun g e => .inl e) fun i e => .inl (.inr e)) (.inl (.inl rfl)) _
  have hmv : Moved w v (.slice (some ⟨g1, 0, none⟩) (d.size + 1) k1) := by
    rcases hat1 with e1 | e1
    · exact .inl e1
    · exact .inr ⟨_, e1, by simp⟩
  have HE : Hid (∀ W, Only (· = g1) (w1.setCell ⟨hb, 1, none⟩ (.slice (some ⟨g1, 0, none⟩) (d.size + 1) k1)) W → Only (Mine hb v) w W ∧ Blk W hb 50 #[.func (.func K) #[] #[], .slice (some ⟨g1, 0, none⟩) (d.size + 1) k1]) := Lib.hid fun W hW =>
    ⟨h1.trans hW fun i e => by
      rcases hmv with e1 | ⟨g, e1, hg⟩
      · exact .inl (.inr (by rw [← e1, e]; rfl))
      · simp only [Value.ownBlock, Option.some.injEq] at e1
        exact .inr (by rw [e, e1]; exact hg), Blk.only hs2 hW hbg⟩
  have HM := Lib.hid hmv
  have HR2 := Lib.hid (HR.out g1 k1 _ _ hs2 hrow2 hbg (by omega) (by simpa using hU) (by omega))
  have HP := Lib.hid hpu
  have HN := Lib.hid hbg
  clear hs2 hrow2 h1 hmv HR hblk1 hrow hg1 hat1 hown hown1 hU hpu hbg HS hgl hgb hne hlt
  go_wp2_with (fail)
  refine HR2.out.mono ?_
  rintro e w5 ⟨rfl, ho, d', hd', hp', hH', hr'⟩
  obtain ⟨k1', k2'⟩ := HE.out w5 ho
  go_wp2_with (fail)
  go_end0
  exact ⟨rfl, k1', .slice (some ⟨g1, 0, none⟩) (d.size + 1) k1, d', ⟨k2', by rw [← hd']; exact hr', by simp only [Value.ownBlock]; intro e; exact HN.out (by injection e with e; exact e.symm)⟩, hH', hp'.trans HP.out, HM.out⟩
end Go.Proofs.Ytcnncfjplmejhaa.heap
