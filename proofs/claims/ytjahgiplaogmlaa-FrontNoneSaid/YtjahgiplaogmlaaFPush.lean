/-
  A heap of entries in memory; the contracts of New, Len, Top, Push.
-/
import Derived.Test.YtjahgiplaogmlaaFSink
import Derived.Deep.RegionLaw
namespace Go.Proofs.Ytjahgiplaogmlaa.fro
open Go.RowKit law bytes only flat heapM Go.Sort Go.Shelf
set_option linter.unusedVariables false

/-- what a heap's methods may turn -/
def Mine (hb : Nat) (v : Value) (i : Nat) : Prop := i = hb ∨ v.ownBlock = some i
/-- where a heap's row lies behind a method: as before, or in new memory -/
def Moved (w : World) (v v' : Value) : Prop := v'.ownBlock = v.ownBlock ∨ ∃ g, v'.ownBlock = some g ∧ w.heap.size ≤ g
/-- a heap of entries at block hb: its order, its row -/
def EHp (w : World) (base hb : Nat) (v : Value) (K : Nat) (d : Array Ent) : Prop :=
  Blk w hb 59 #[.func (.func K) #[] #[], v] ∧ w.ownsRow base 44 3 v d.size (d.toList.flatMap ec) ∧ v.ownBlock ≠ some hb
section
variable {w w' : World} {base hb : Nat} {v : Value} {K : Nat} {d : Array Ent}
theorem EHp.lt (h : EHp w base hb v K d) : hb < w.heap.size := h.1.lt
theorem EHp.below {B : Nat} (h : EHp w base hb v K d) (k : Below B w w') (hB : w.heap.size ≤ B) : EHp w' base hb v K d := ⟨h.1.below k (Nat.lt_of_lt_of_le h.1.lt hB), own_below h.2.1 k hB, h.2.2⟩
theorem EHp.only {S : Nat → Prop} (h : EHp w base hb v K d) (k : Only S w w') (hS : ∀ i, Mine hb v i → ¬ S i) : EHp w' base hb v K d :=
  ⟨Blk.only h.1 k (hS hb (.inl rfl)), own_only h.2.1 k fun g e => hS g (.inr e), h.2.2⟩
theorem EHp.form (h : EHp w base hb v K d) (h0 : 0 < d.size) : ∃ g c, v = .slice (some ⟨g, 0, none⟩) d.size c ∧ ERow w base g c d ∧ hb ≠ g := by
  obtain ⟨g, c, rfl, _⟩ := own_form h.2.1 h0
  exact ⟨g, c, rfl, h.2.1, fun e => h.2.2 (by rw [e]; rfl)⟩
theorem EHp.slice (h : EHp w base hb v K d) : ∃ A c, v = .slice A d.size c := by
  obtain ⟨A, c, e, _⟩ := own_slice h.2.1
  exact ⟨A, c, e⟩
end
theorem new_ent (K base : Nat) (w : World) (hB : base ≤ w.heap.size) : Calls Try.prog 19 #[.func (.func K) #[] #[]] w fun e w' =>
    e = .returned (.pointer (some ⟨w.heap.size, 0, none⟩)) ∧ Below w.heap.size w w' ∧ EHp w' base w.heap.size (.slice none 0 0) K #[] := by
  have hb : Below w.heap.size w (w.alloc (.cells #[.func (.func K) #[] #[], .slice none 0 0] 59)) := (Below.refl _ _).alloc (Nat.le_refl _) _
  have hm : EHp (w.alloc (.cells #[.func (.func K) #[] #[], .slice none 0 0] 59)) base w.heap.size (.slice none 0 0) K #[] := ⟨Blk.new _ _ _, World.ownsRow_nil _ _ _ _, by simp [Value.ownBlock]⟩
  have HM := Lib.hid hm
  have HB := Lib.hid hb
  clear hm hb
  go_enter Try.func19, Try.ntmps19
  go_wp2_with (fail)
  go_ret
  exact ⟨rfl, HB.out, HM.out⟩
theorem len_ent {w : World} {base hb : Nat} {v : Value} {K : Nat} {d : Array Ent} (h : EHp w base hb v K d) : Calls Try.prog 31 #[.pointer (some ⟨hb, 0, none⟩)] w fun e w' => e = .returned (.int .i64 d.size) ∧ w = w' := by
  obtain ⟨A, c, rfl⟩ := h.slice
  have c1 : w.cell? ⟨hb, 1, none⟩ = some (.slice A d.size c) := h.1.cell 1
  clear h
  go_enter Try.func31, Try.ntmps31
  go_wp2_with (fail)
  go_ret
  exact ⟨rfl, rfl⟩
/-- what Top tells of entries -/
def topE (d : Array Ent) : Value := if d.size = 0 then .tuple #[tE (0, 0, 0), .bool false] else .tuple #[tE d[0]!, .bool true]
set_option maxRecDepth 100000 in
set_option maxHeartbeats 1600000 in
theorem top_ent {w : World} {base hb : Nat} {v : Value} {K : Nat} {d : Array Ent} (h : EHp w base hb v K d) : Calls Try.prog 25 #[.pointer (some ⟨hb, 0, none⟩)] w fun e w' => e = .returned (topE d) ∧ Below w.heap.size w w' := by
  unfold topE tE
  have hb1 : Below w.heap.size w (w.alloc (.cells #[.int .i64 0, .int .i64 0, .int .u64 0] 44)) := (Below.refl _ _).alloc (Nat.le_refl _) _
  have h1 := h.below hb1 (Nat.le_refl _)
  have HL := Lib.hid (len_ent h1)
  by_cases h0 : d.size = 0
  · rw [if_pos h0]
    rw [h0] at HL
    clear h h1
    go_enter Try.func25, Try.ntmps25
    go_wp2_with (go_at_call 31; (with_reducible refine HL.out.mono ?_); rintro e w' ⟨rfl, rfl⟩)
    obtain ⟨V, hV⟩ : ∃ V, V = (w.alloc (.cells #[.int .i64 0, .int .i64 0, .int .u64 0] 44)).alloc (.cells #[.int .i64 0, .int .i64 0, .int .u64 0] 44) := ⟨_, rfl⟩
    have hbl : Blk V w.heap.size 44 #[.int .i64 0, .int .i64 0, .int .u64 0] := by rw [hV]; exact (Blk.new w _ _).alloc _
    have z0 : V.cell? ⟨w.heap.size, 0, none⟩ = some (.int .i64 0) := hbl.cell 0
    have z1 : V.cell? ⟨w.heap.size, 1, none⟩ = some (.int .i64 0) := hbl.cell 1
    have z2 : V.cell? ⟨w.heap.size, 2, none⟩ = some (.int .u64 0) := hbl.cell 2
    have hB : Below w.heap.size w V := by rw [hV]; exact hb1.alloc (by simp) _
    rw [← hV]
    clear hV hbl
    refine bodyPost_ret (v := .tuple #[.agg #[.int .i64 0, .int .i64 0, .int .u64 0], .bool false]) (by simp [results, Try.results25, go_sem, z0, z1, z2]) rfl ?_
    exact ⟨rfl, hB⟩
  · rw [if_neg h0]
    obtain ⟨g, c, rfl, hr, -⟩ := h1.form (by omega)
    have c1 : (w.alloc (.cells #[.int .i64 0, .int .i64 0, .int .u64 0] 44)).cell? ⟨hb, 1, none⟩ = some (.slice (some ⟨g, 0, none⟩) d.size c) := h1.1.cell 1
    have q0 := hr.c1 0 (by omega)
    have q1 := hr.c2 0 (by omega)
    have q2 := hr.c3 0 (by omega)
    simp only [Nat.zero_mul, Nat.zero_add] at q0 q1 q2
    have i0 : ((d.size : Int) == 0) = false := by rw [beq_eq_false_iff_ne]; omega
    have i1 : (0 : Int) < (d.size : Int) := by omega
    generalize d[0]! = x at q0 q1 q2 ⊢
    clear h h1 hr
    go_enter Try.func25, Try.ntmps25
    go_wp2_with (go_at_call 31; (with_reducible refine HL.out.mono ?_); rintro e w' ⟨rfl, rfl⟩)
    obtain ⟨V, hV⟩ : ∃ V, V = w.alloc (.cells #[.int .i64 x.1, .int .i64 x.2.1, .int .u64 x.2.2] 44) := ⟨_, rfl⟩
    have hbl : Blk V w.heap.size 44 #[.int .i64 x.1, .int .i64 x.2.1, .int .u64 x.2.2] := by rw [hV]; exact Blk.new w _ _
    have z0 : V.cell? ⟨w.heap.size, 0, none⟩ = some (.int .i64 x.1) := hbl.cell 0
    have z1 : V.cell? ⟨w.heap.size, 1, none⟩ = some (.int .i64 x.2.1) := hbl.cell 1
    have z2 : V.cell? ⟨w.heap.size, 2, none⟩ = some (.int .u64 x.2.2) := hbl.cell 2
    have hB : Below w.heap.size w V := by rw [hV]; exact (Below.refl _ _).alloc (Nat.le_refl _) _
    rw [← hV]
    clear hV hbl
    refine bodyPost_ret (v := .tuple #[.agg #[.int .i64 x.1, .int .i64 x.2.1, .int .u64 x.2.2], .bool true]) (by simp [results, Try.results25, go_sem, z0, z1, z2]) rfl ?_
    exact ⟨rfl, hB⟩
theorem pc_push (d : Array Ent) (x : Ent) : (d.push x).toList.flatMap ec = d.toList.flatMap ec ++ ec x := by simp
theorem pc_one (x : Ent) : ∀ u ∈ ec x, u.oneCell' = true := by simp [ec, Value.oneCell']
set_option maxRecDepth 100000 in
set_option maxHeartbeats 3200000 in
theorem push_ent {base hb : Nat} {v : Value} {K : Nat} {d : Array Ent} (cf : Ent → Ent → Int) (hK : Enters Try.prog K) (hO : Ordr K tE cf) (hS : SWO (lf cf)) (x : Ent) (w : World) (h : EHp w base hb v K d) (hH : Heap (lf cf) d) (hB : base ≤ w.heap.size) (hsz : (d.size + 1) * 24 ≤ 140737488355328) :
    Calls Try.prog 21 #[.pointer (some ⟨hb, 0, none⟩), tE x] w fun e w' =>
      e = .returned (.tuple #[]) ∧ Only (Mine hb v) w w' ∧ ∃ v' d', EHp w' base hb v' K d' ∧ Heap (lf cf) d' ∧ d'.toList.Perm (x :: d.toList) ∧ Moved w v v' := by
  have ep : (d.push x).size = d.size + 1 := by simp
  have hR := fun g c W v => rise_ent K hb v cf hK hO hS base g c (d.push x) W
  rw [ep] at hR
  have hU := Up.push hH x
  have hpu : (d.push x).toList.Perm (x :: d.toList) := by
    rw [Array.toList_push]
    exact List.perm_append_comm (l₁ := d.toList) (l₂ := [x])
  have hlt := h.lt
  obtain ⟨A0, c0, rfl⟩ := h.slice
  obtain ⟨hs0, hown0, hne⟩ := h
  obtain ⟨v, hv⟩ : ∃ v, v = Value.slice A0 d.size c0 := ⟨_, rfl⟩
  rw [← hv] at hs0 hown0 hne ⊢
  obtain ⟨w1, hw1⟩ : ∃ w1, w1 = w.alloc (.cells #[.int .i64 x.1, .int .i64 x.2.1, .int .u64 x.2.2] 44) := ⟨_, rfl⟩
  have ho1 : Only (Mine hb v) w w1 := by rw [hw1]; exact Only.alloc (Only.refl _ _) _
  have hs : Blk w1 hb 59 #[.func (.func K) #[] #[], v] := by rw [hw1]; exact hs0.alloc _
  have hown : w1.ownsRow base 44 3 v d.size (d.toList.flatMap ec) := by rw [hw1]; exact hown0.alloc _
  have hx : Blk w1 w.heap.size 44 #[.int .i64 x.1, .int .i64 x.2.1, .int .u64 x.2.2] := by rw [hw1]; exact Blk.new w _ _
  have hz : w1.heap.size = w.heap.size + 1 := by rw [hw1]; simp
  have c1 : w1.cell? ⟨hb, 1, none⟩ = some v := hs.cell 1
  have x0 : w1.cell? ⟨w.heap.size, 0, none⟩ = some (.int .i64 x.1) := hx.cell 0
  have x1 : w1.cell? ⟨w.heap.size, 1, none⟩ = some (.int .i64 x.2.1) := hx.cell 1
  have x2 : w1.cell? ⟨w.heap.size, 2, none⟩ = some (.int .u64 x.2.2) := hx.cell 2
  clear hs0
  unfold tE
  go_enter Try.func21, Try.ntmps21
  go_wp2_with (fail)
  rw [← hw1]
  go_wp2_with (fail)
  have c2 : (w1.alloc (.cells #[.int .i64 x.1, .int .i64 x.2.1, .int .u64 x.2.2] 44)).cell? ⟨hb, 1, none⟩ = some v := (hs.alloc (.cells #[.int .i64 x.1, .int .i64 x.2.1, .int .u64 x.2.2] 44)).cell 1
  have c3 : w1.drew.cell? ⟨hb, 1, none⟩ = some v := hs.cell 1
  rw [hv] at c1 c2 c3
  clear hw1
  have HBN : Hid (Blk ((w1.drewN 1).alloc (.cells #[.int .i64 x.1, .int .i64 x.2.1, .int .u64 x.2.2] 44)) w1.heap.size 44 (ec x).toArray) := Lib.hid (Blk.new (w1.drewN 1) _ _)
  have HOWN : Hid (w1.ownsRow base 44 3 (.slice A0 d.size c0) d.size (d.toList.flatMap ec)) := Lib.hid (hv ▸ hown)
  have HGR : Hid (∀ w2, ((w1.drewN 1).alloc (.cells #[.int .i64 x.1, .int .i64 x.2.1, .int .u64 x.2.2] 44)).grownBy w2 (Value.slice A0 d.size c0).ownBlock → Blk w2 hb 59 #[.func (.func K) #[] #[], .slice A0 d.size c0] ∧ Only (Mine hb v) w w2) := Lib.hid fun w2 hg1 =>
    ⟨(Blk.alloc (w := w1.drewN 1) (hv ▸ hs) (.cells #[.int .i64 x.1, .int .i64 x.2.1, .int .u64 x.2.2] 44)).grown hg1 (fun e => hne (by rw [hv]; exact e.symm)), (ho1.drewN 1).alloc _ |>.trans (Only.of_grown hg1 (S := fun i => v.ownBlock = some i) fun g e => .inl (by rw [hv]; exact e)) fun i e => .inl (.inr e)⟩
  have HBS : Hid (base ≤ ((w1.drewN 1).alloc (.cells #[.int .i64 x.1, .int .i64 x.2.1, .int .u64 x.2.2] 44)).heap.size) := Lib.hid (by simp; omega)
  have HV := Lib.hid hv
  have HZ := Lib.hid hz
  clear hs hv hown hx hz hown0
  go_region_law (refine step_append_k _ (by rfl) _ _ _ (by rfl) base 44 3 24 Try.underlying22 entE (by decide) (.slice A0 d.size c0) d.size (d.toList.flatMap ec) (by rfl) (World.ownsRow.alloc (w := w1.drewN 1) HOWN.out _) w1.heap.size 1 (ec x) 44 HBN.out (by rfl) rfl (pc_one x) (by omega) (by unfold maxLen; omega) HBS.out ?_; intro v1 w2 hown1 hg1 hat1; obtain ⟨g1, k1, rfl, hgb, hgl, hk1⟩ := own_form hown1 (Nat.succ_pos _); have hd1 := (HGR.out w2 hg1).1.cell 1; have hf1 := (HGR.out w2 hg1).1.frozen 1; simp only [List.getElem?_toArray, List.getElem?_cons_succ, List.getElem?_cons_zero] at hd1)
  all_goals
    obtain ⟨hblk1, ho2⟩ := HGR.out w2 hg1
    have hbg : hb ≠ g1 := fun e => by
      simp only [Value.ownBlock] at hat1
      rcases hat1 with e1 | e1
      · exact hne (by rw [HV.out, e]; exact e1.symm)
      · have := HZ.out
        simp at e1; omega
    have hrow : ERow w2 base g1 k1 (d.push x) := by
      show w2.ownsRow _ _ _ _ _ _
      rw [ep, pc_push]
      exact hown1
    have hs2 := hblk1.set_ 1 (.slice (some ⟨g1, 0, none⟩) (d.size + 1) k1)
    have hrow2 : ERow (w2.setCell ⟨hb, 1, none⟩ (.slice (some ⟨g1, 0, none⟩) (d.size + 1) k1)) base g1 k1 (d.push x) := hrow.only (S := fun i => i = hb) (Only.setCell (S := fun i => i = hb) (p := ⟨hb, 1, none⟩) (Only.refl _ _) (.inl rfl) _) (fun e => hbg e.symm)
    have d1 : (w2.setCell ⟨hb, 1, none⟩ (.slice (some ⟨g1, 0, none⟩) (d.size + 1) k1)).cell? ⟨hb, 1, none⟩ = some (.slice (some ⟨g1, 0, none⟩) (d.size + 1) k1) := hs2.cell 1
    have h1 : Only (Mine hb v) w (w2.setCell ⟨hb, 1, none⟩ (.slice (some ⟨g1, 0, none⟩) (d.size + 1) k1)) := Only.setCell (p := ⟨hb, 1, none⟩) ho2 (.inl (.inl rfl)) _
    have hmv : Moved w v (.slice (some ⟨g1, 0, none⟩) (d.size + 1) k1) := by
      rcases hat1 with e1 | e1
      · exact .inl (by rw [e1, HV.out])
      · exact .inr ⟨_, e1, by have := HZ.out; simp; omega⟩
    have HE : Hid (∀ W, Only (· = g1) (w2.setCell ⟨hb, 1, none⟩ (.slice (some ⟨g1, 0, none⟩) (d.size + 1) k1)) W → Only (Mine hb v) w W ∧ Blk W hb 59 #[.func (.func K) #[] #[], .slice (some ⟨g1, 0, none⟩) (d.size + 1) k1]) := Lib.hid fun W hW =>
      ⟨h1.trans hW fun i e => by
        rcases hmv with e1 | ⟨g, e1, hg⟩
        · exact .inl (.inr (by rw [← e1, e]; rfl))
        · simp only [Value.ownBlock, Option.some.injEq] at e1
          exact .inr (by rw [e, e1]; exact hg), Blk.only hs2 hW hbg⟩
    have HM := Lib.hid hmv
    have HR2 := Lib.hid (hR g1 k1 _ _ hs2 hrow2 hbg (by omega) (by simpa using hU) (by omega))
    have HP := Lib.hid hpu
    have HN := Lib.hid hbg
    clear hs2 hrow2 h1 hmv hR hblk1 hrow hg1 hat1 hown1 hU hpu hbg hgl hgb hne hlt ho2 ho1 hd1 hf1 c1 c2 c3 x0 x1 x2 hK hO
    go_wp2_with (fail)
    refine HR2.out.mono ?_
    rintro e w5 ⟨rfl, ho, d', hd', hp', hH', hr'⟩
    obtain ⟨k1', k2'⟩ := HE.out w5 ho
    go_wp2_with (fail)
    go_end0
    exact ⟨rfl, k1', .slice (some ⟨g1, 0, none⟩) (d.size + 1) k1, d', ⟨k2', by rw [← hd']; exact hr', by simp only [Value.ownBlock]; intro e; exact HN.out (by injection e with e; exact e.symm)⟩, hH', hp'.trans HP.out, HM.out⟩
end Go.Proofs.Ytjahgiplaogmlaa.fro
